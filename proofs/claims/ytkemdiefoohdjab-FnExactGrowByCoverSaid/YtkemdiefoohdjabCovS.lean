/- The places that a word covers: the model. -/
import Derived.Test.YtkemdiefoohdjabCovPlain
import Derived.Test.YtkemdiefoohdjabPlacesS
import Derived.Test.YtkemdiefoohdjabTabB
import Derived.Deep.LoopGhost
import Derived.Deep.Cut
import Derived.Deep.CutRange
import Derived.Deep.RegionHeld3
namespace Go.Proofs.Ytkemdiefoohdjab
set_option linter.unusedVariables false
set_option linter.unusedSimpArgs false
open Go.RowKit

theorem nil_yesS {x : ByteArray} (h : x.size = 0) : x.toList.isEmpty = true := by
  have : x = ByteArray.empty := by
    cases x with | mk d => simp only [ByteArray.size] at h; rw [Array.eq_empty_of_size_eq_zero h]; rfl
  rw [this, ByteArray.toList_eq]; rfl
theorem nil_noS {x : ByteArray} (h : ¬ x.size = 0) : x.toList.isEmpty = false := by
  rw [ByteArray.toList_eq, List.isEmpty_eq_false_iff]
  intro e
  apply h
  show x.data.size = 0
  rw [← Array.length_toList, e]
  rfl
def codeR (x : ByteArray) (xs : List ByteArray) : Int := if ¬ IsW x then 1 else if ¬ (∀ y ∈ xs, IsW y) then 1 else if ∃ y ∈ xs, y.size = 0 then 2 else 0
set_option maxRecDepth 100000 in
set_option maxHeartbeats 1000000 in
theorem l09Code_any (b : Nat) (x : ByteArray) (xs : List ByteArray) (w : World) (hb : b < w.heap.size) (hn : xs.length ≤ 9) (sx : x.size ≤ maxLen)
    (hc : ∀ j (h : j < xs.length), w.cell? ⟨b, j, none⟩ = some (.string (xs[j]'h))) (hs : ∀ j (h : j < xs.length), (xs[j]'h).size ≤ maxLen) :
    Calls Try.prog 55 #[.string x, .slice (some ⟨b, 0, none⟩) xs.length xs.length] w fun e w' => e = .returned (.int .i64 (codeR x xs)) ∧ Below w.heap.size w w' := by
  have HC := Lib.hid hc
  have HS := Lib.hid hs
  clear hc hs
  by_cases hx : IsW x
  · have HX := Lib.hid hx
    clear hx
    go_enter Try.func55, Try.ntmps55
    go_wp2_with (go_at_call 72; refine (l01Is_yes x _ HX.out).mono ?_; rintro e w1 ⟨rfl, b1⟩)
    go_loopw [5] (fun s5 wr => ∃ k : Nat, k ≤ xs.length ∧ s5 = .int .i64 (k : Int) ∧ Hid (∀ j (h : j < xs.length), j < k → IsW (xs[j]'h)) ∧ Below w.heap.size w wr)
      (fun s5 _ => xs.length - (intOf s5).toNat)
    case atStart => exact ⟨0, Nat.zero_le _, rfl, Lib.hid (fun j _ h => by omega), b1⟩
    case round =>
      obtain ⟨k, hk, rfl, hi, hB⟩ := hrel
      by_cases hp : k < xs.length
      · have hkn : (k : Int) < (xs.length : Int) := by omega
        have hk0 : (0 : Int) ≤ (k : Int) := by omega
        have kc : wr.cell? ⟨b, k, none⟩ = some (.string (xs[k]'hp)) := by rw [(bcell hB).1 b k hb]; exact HC.out k hp
        have sy := HS.out k hp
        by_cases hy : IsW (xs[k]'hp)
        · have HY := Lib.hid hy
          have hi2 : Hid (∀ j (h : j < xs.length), j < k + 1 → IsW (xs[j]'h)) := Lib.hid (fun j h hj => by
            by_cases e : j = k
            · subst e; exact hy
            · exact hi.out j h (by omega))
          clear hy
          go_wp2_with (go_at_call 72; refine (l01Is_yes _ _ HY.out).mono ?_; rintro e w2 ⟨rfl, b2⟩)
          go_roundw
          case rel => exact ⟨k + 1, by omega, by go_num, hi2, hB.then b2⟩
          case measure => simp [intOf]; omega
        · have HY := Lib.hid hy
          have e1 : codeR x xs = 1 := by
            unfold codeR; rw [if_neg (not_not_intro HX.out), if_pos (fun e => hy (e _ (List.getElem_mem hp)))]
          clear hy
          go_wp2_with (go_at_call 72; refine (l01Is_no _ _ sy HY.out).mono ?_; rintro e w2 ⟨rfl, b2⟩)
          go_ret
          exact ⟨by first | rfl | (rw [e1]; rfl), hB.then b2⟩
      · obtain rfl : k = xs.length := by omega
        have hkn : ¬ (xs.length : Int) < (xs.length : Int) := by omega
        have hall : ∀ y ∈ xs, IsW y := fun y hy => by
          obtain ⟨j, hj, rfl⟩ := List.getElem_of_mem hy
          exact hi.out j hj hj
        have HALL := Lib.hid hall
        clear hall
        go_wp2_with fail
        go_loopw [6] (fun s6 wr => ∃ k : Nat, k ≤ xs.length ∧ s6 = .int .i64 (k : Int) ∧ Hid (∀ j (h : j < xs.length), j < k → ¬ (xs[j]'h).size = 0) ∧ Below w.heap.size w wr)
          (fun s6 _ => xs.length - (intOf s6).toNat)
        case atStart => exact ⟨0, Nat.zero_le _, rfl, Lib.hid (fun j _ h => by omega), hB⟩
        case round =>
          clear hB hi
          obtain ⟨k, hk, rfl, hi, hB⟩ := hrel
          by_cases hp : k < xs.length
          · have hkn : (k : Int) < (xs.length : Int) := by omega
            have hk0 : (0 : Int) ≤ (k : Int) := by omega
            have kc : wr.cell? ⟨b, k, none⟩ = some (.string (xs[k]'hp)) := by rw [(bcell hB).1 b k hb]; exact HC.out k hp
            by_cases hy : (xs[k]'hp).size = 0
            · have hq := nil_yesS hy
              have e1 : codeR x xs = 2 := by
                unfold codeR; rw [if_neg (not_not_intro HX.out), if_neg (not_not_intro HALL.out), if_pos ⟨_, List.getElem_mem hp, hy⟩]
              clear hy
              go_wp2_with fail
              go_ret
              exact ⟨by first | rfl | (rw [e1]; rfl), hB⟩
            · have hq := nil_noS hy
              have hi2 : Hid (∀ j (h : j < xs.length), j < k + 1 → ¬ (xs[j]'h).size = 0) := Lib.hid (fun j h hj => by
                by_cases e : j = k
                · subst e; exact hy
                · exact hi.out j h (by omega))
              clear hy
              go_wp2_with fail
              go_roundw
              case rel => exact ⟨k + 1, by omega, by go_num, hi2, hB⟩
              case measure => simp [intOf]; omega
          · obtain rfl : k = xs.length := by omega
            have e1 : codeR x xs = 0 := by
              unfold codeR
              rw [if_neg (not_not_intro HX.out), if_neg (not_not_intro HALL.out), if_neg]
              rintro ⟨y, hy, h0⟩
              obtain ⟨j, hj, rfl⟩ := List.getElem_of_mem hy
              exact hi.out j hj hj h0
            have hkn : ¬ (xs.length : Int) < (xs.length : Int) := by omega
            go_wp2_with fail
            go_ret
            exact ⟨by first | rfl | (rw [e1]; rfl), hB⟩
  · have HX := Lib.hid hx
    have e1 : codeR x xs = 1 := by unfold codeR; rw [if_pos hx]
    clear hx
    go_enter Try.func55, Try.ntmps55
    go_wp2_with (go_at_call 72; refine (l01Is_no x _ sx HX.out).mono ?_; rintro e w1 ⟨rfl, b1⟩)
    go_ret
    exact ⟨by first | rfl | (rw [e1]; rfl), b1⟩

theorem codeR1_bad {x u : ByteArray} (h : ¬ (IsW x ∧ IsW u)) : codeR x [u] = 1 := by
  unfold codeR
  by_cases hx : IsW x
  · rw [if_neg (not_not_intro hx), if_pos (fun e => h ⟨hx, e u (by simp)⟩)]
  · rw [if_pos hx]
theorem codeR1_empty {x u : ByteArray} (h : IsW x ∧ IsW u) (k : u.size = 0) : codeR x [u] = 2 := by
  unfold codeR
  rw [if_neg (not_not_intro h.1), if_neg (not_not_intro (fun y hy => by rw [List.mem_singleton.1 hy]; exact h.2)), if_pos ⟨u, by simp, k⟩]
theorem codeR1_ok {x u : ByteArray} (h : IsW x ∧ IsW u) (k : ¬ u.size = 0) : codeR x [u] = 0 := by
  unfold codeR
  rw [if_neg (not_not_intro h.1), if_neg (not_not_intro (fun y hy => by rw [List.mem_singleton.1 hy]; exact h.2)), if_neg]
  rintro ⟨y, hy, h0⟩
  rw [List.mem_singleton.1 hy] at h0
  exact k h0
theorem l09Code1_any (x u : ByteArray) (w : World) (sx : x.size ≤ maxLen) (su : u.size ≤ maxLen) (b : Nat) (hb : b < w.heap.size) (hc : w.cell? ⟨b, 0, none⟩ = some (.string u)) :
    Calls Try.prog 55 #[.string x, .slice (some ⟨b, 0, none⟩) 1 1] w fun e w' => e = .returned (.int .i64 (codeR x [u])) ∧ Below w.heap.size w w' :=
  l09Code_any b x [u] w hb (by simp) sx (fun j h => by match j, h with | 0, _ => exact hc) (fun j h => by match j, h with | 0, _ => exact su)
theorem codeR2_bad {x u v : ByteArray} (h : ¬ (IsW x ∧ IsW u ∧ IsW v)) : codeR x [u, v] = 1 := by
  unfold codeR
  by_cases hx : IsW x
  · rw [if_neg (not_not_intro hx), if_pos (fun e => h ⟨hx, e u (by simp), e v (by simp)⟩)]
  · rw [if_pos hx]
theorem codeR2_empty {x u v : ByteArray} (h : IsW x ∧ IsW u ∧ IsW v) (k : u.size = 0 ∨ v.size = 0) : codeR x [u, v] = 2 := by
  unfold codeR
  rw [if_neg (not_not_intro h.1), if_neg (not_not_intro (fun y hy => by rcases List.mem_cons.1 hy with e | e; · rw [e]; exact h.2.1
                                                                        · rw [List.mem_singleton.1 e]; exact h.2.2)), if_pos]
  rcases k with k | k
  · exact ⟨u, by simp, k⟩
  · exact ⟨v, by simp, k⟩
theorem codeR2_ok {x u v : ByteArray} (h : IsW x ∧ IsW u ∧ IsW v) (k : ¬ (u.size = 0 ∨ v.size = 0)) : codeR x [u, v] = 0 := by
  unfold codeR
  rw [if_neg (not_not_intro h.1), if_neg (not_not_intro (fun y hy => by rcases List.mem_cons.1 hy with e | e; · rw [e]; exact h.2.1
                                                                        · rw [List.mem_singleton.1 e]; exact h.2.2)), if_neg]
  rintro ⟨y, hy, h0⟩
  rcases List.mem_cons.1 hy with e | e
  · rw [e] at h0; exact k (.inl h0)
  · rw [List.mem_singleton.1 e] at h0; exact k (.inr h0)
theorem l09Code2_any (x u v : ByteArray) (w : World) (sx : x.size ≤ maxLen) (su : u.size ≤ maxLen) (sv : v.size ≤ maxLen) (b : Nat) (hb : b < w.heap.size) (hc : w.cell? ⟨b, 0, none⟩ = some (.string u)) (hc1 : w.cell? ⟨b, 1, none⟩ = some (.string v)) :
    Calls Try.prog 55 #[.string x, .slice (some ⟨b, 0, none⟩) 2 2] w fun e w' => e = .returned (.int .i64 (codeR x [u, v])) ∧ Below w.heap.size w w' :=
  l09Code_any b x [u, v] w hb (by simp) sx (fun j h => by match j, h with | 0, _ => exact hc | 1, _ => exact hc1) (fun j h => by match j, h with | 0, _ => exact su | 1, _ => exact sv)

end Go.Proofs.Ytkemdiefoohdjab
