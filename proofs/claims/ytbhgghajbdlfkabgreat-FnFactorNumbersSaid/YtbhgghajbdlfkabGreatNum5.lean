/- The number of a word in a list, and the code of a word and a length: the model of chapter 5. -/
import Derived.Test.YtbhgghajbdlfkabGreatStrs
import Derived.Test.YtbhgghajbdlfkabGreatTurn
import Derived.Test.YtbhgghajbdlfkabGreatGapPlain
import Derived.Deep.LoopGhost
import Derived.Lib.SlicesS
namespace Go.Proofs.YtbhgghajbdlfkabGreat
set_option linter.unusedVariables false
set_option linter.unusedSimpArgs false
open Go.RowKit

theorem OwnS.look5 {w : World} {B : Nat} {v : Value} {L : List ByteArray} (h : OwnS w B v L) : ∃ ad cap, v = .slice ad L.length cap ∧ ∀ j (hj : j < L.length), ∃ g, ad = some ⟨g, 0, none⟩ ∧ g < w.heap.size ∧ j < cap ∧ w.cell? ⟨g, j, none⟩ = some (.string (L[j]'hj)) := by
  rcases own_forms h with ⟨rfl, h0, _⟩ | ⟨g, cap, rfl, _, hg, hc, _, hk, _⟩
  · exact ⟨_, _, by rw [h0], fun j hj => by omega⟩
  · refine ⟨_, _, rfl, fun j hj => ⟨g, rfl, hg, by omega, ?_⟩⟩
    rw [hk j hj]
    simp [hj]
theorem own_other5 {w w' : World} {B : Nat} {e : TypeId} {v : Value} {n : Nat} {xs : List Value} {row : Option Nat} (h : w.ownsRow B e 1 v n xs) (hg : w.grownBy w' row) (hne : ∀ k, v.ownBlock = some k → row ≠ some k) : w'.ownsRow B e 1 v n xs := by
  obtain ⟨hl, h1 | ⟨g, cap, cur, rfl, hb, hh, r⟩⟩ := h
  · exact ⟨hl, .inl h1⟩
  · refine ⟨hl, .inr ⟨g, cap, cur, rfl, hb, ?_, r⟩⟩
    rw [hg.block g (Array.getElem?_eq_some_iff.1 hh).1 (fun e => hne g rfl e.symm)]
    exact hh
theorem getD_lt5 {L : List ByteArray} {k : Nat} (h : k < L.length) : L.getD k ByteArray.empty = L[k]'h := by
  rw [List.getD_eq_getElem?_getD, List.getElem?_eq_getElem h]; rfl

set_option maxRecDepth 100000 in
set_option maxHeartbeats 1000000 in
theorem l05Number_same (B : Nat) (v : Value) (L : List ByteArray) (u : ByteArray) (w : World) (h : OwnS w B v L) (hl : L.length ≤ 100) :
    Calls Tryz.prog 79 #[v, .string u] w fun e w' => e = .returned (.int .i64 (Lib.idxOfS L u)) ∧ w' = w := by
  obtain ⟨a1, c1, rfl, k1⟩ := h.look5
  have K1 := Lib.hid k1
  obtain ⟨R, HR⟩ : ∃ R, Hid (Lib.idxOfS L u = R) := ⟨_, Lib.hid rfl⟩
  rw [HR.out]
  clear h k1
  go_enter Tryz.func79, Tryz.ntmps79
  go_wp2
  go_loopg [5] L.length (fun gk i wr => ∃ k : Nat, k + gk = L.length ∧ i = .int .i64 (k : Int) ∧ Hid (∀ j, j < k → L.getD j ByteArray.empty ≠ u) ∧ wr = w)
  case atStart => exact ⟨0, by omega, rfl, Lib.hid (fun j h => by omega), rfl⟩
  case round =>
    obtain ⟨k, hk, rfl, HN, rfl⟩ := hrel
    by_cases hp : k < L.length
    · obtain ⟨gq, rfl⟩ : ∃ gq, gk = gq + 1 := ⟨gk - 1, by omega⟩
      have HK := Lib.hid hk
      obtain ⟨g, rfl, hg, hkc, hc⟩ := K1.out k hp
      have hpi : (k : Int) < (L.length : Int) := by omega
      have HG := Lib.hid (getD_lt5 hp)
      clear hk
      generalize L[k]'hp = z at *
      by_cases he : z = u
      · have ht := teq_yes he
        have HE : Hid (R = (k : Int)) := Lib.hid (by
          rw [← HR.out, ← Lib.idxOfS_hit L L.length k u hp (Nat.le_refl _) (by rw [HG.out]; exact he) HN.out, List.take_length])
        clear he
        go_wp2
        go_ret
        exact ⟨by rw [HE.out]; rfl, rfl⟩
      · have ht := teq_no he
        have HN2 : Hid (∀ j, j < k + 1 → L.getD j ByteArray.empty ≠ u) := Lib.hid (fun j hj => by
          by_cases e : j = k
          · subst e; rw [HG.out]; exact he
          · exact HN.out j (by omega))
        clear he
        go_wp2
        go_roundg gq
        case measure => omega
        case rel => exact ⟨k + 1, by have := HK.out; omega, by go_num, HN2, rfl⟩
    · obtain rfl : gk = 0 := by omega
      obtain rfl : k = L.length := by omega
      have HE : Hid (R = -1) := Lib.hid (by rw [← HR.out, ← Lib.idxOfS_miss L L.length u HN.out, List.take_length])
      have hpi : ¬ ((L.length : Int) < (L.length : Int)) := by omega
      go_wp2
      go_ret
      exact ⟨by rw [HE.out]; rfl, rfl⟩

theorem l05Number_any (B : Nat) (v : Value) (L : List ByteArray) (u : ByteArray) (w : World) (h : OwnS w B v L) (hl : L.length ≤ 100) :
    Calls Tryz.prog 79 #[v, .string u] w fun e w' => e = .returned (.int .i64 (Lib.idxOfS L u)) ∧ Below w.heap.size w w' := by
  refine (l05Number_same B v L u w h hl).mono ?_
  rintro e w' ⟨rfl, rfl⟩
  exact ⟨rfl, Below.refl _ _⟩

def code5 (x : ByteArray) (m : Int) : Int := if ¬ IsW x then 1 else if m < 0 ∨ 60 < m then 2 else 0
theorem code5_bad {x : ByteArray} {m : Int} (h : ¬ IsW x) : code5 x m = 1 := if_pos h
theorem code5_out {x : ByteArray} {m : Int} (h : IsW x) (k : m < 0 ∨ 60 < m) : code5 x m = 2 := by unfold code5; rw [if_neg (not_not_intro h), if_pos k]
theorem code5_ok {x : ByteArray} {m : Int} (h : IsW x) (k : ¬ (m < 0 ∨ 60 < m)) : code5 x m = 0 := by unfold code5; rw [if_neg (not_not_intro h), if_neg k]

set_option maxRecDepth 100000 in
theorem l05Code_any (x : ByteArray) (m : Int) (w : World) (sx : x.size ≤ maxLen) :
    Calls Tryz.prog 74 #[.string x, .int .i64 m] w fun e w' => e = .returned (.int .i64 (code5 x m)) ∧ Below w.heap.size w w' := by
  by_cases hx : IsW x
  · by_cases ho : m < 0 ∨ 60 < m
    · rw [code5_out hx ho]
      have HX := Lib.hid hx
      have HO := Lib.hid ho
      clear hx ho
      go_enter Tryz.func74, Tryz.ntmps74
      go_wp2_with fail
      refine (l01Is_yes x _ HX.out).mono ?_
      rintro e w1 ⟨rfl, b1⟩
      go_wp2_with fail
      refine (l01In_no _ _ _ _ (by have := HO.out; omega)).mono ?_
      rintro e w2 ⟨rfl, b2⟩
      go_wp2_with fail
      go_ret
      exact ⟨rfl, b1.then b2⟩
    · rw [code5_ok hx ho]
      have HX := Lib.hid hx
      have HO := Lib.hid ho
      clear hx ho
      go_enter Tryz.func74, Tryz.ntmps74
      go_wp2_with fail
      refine (l01Is_yes x _ HX.out).mono ?_
      rintro e w1 ⟨rfl, b1⟩
      go_wp2_with fail
      refine (l01In_yes _ _ _ _ (by have := HO.out; omega) (by have := HO.out; omega)).mono ?_
      rintro e w2 ⟨rfl, b2⟩
      go_wp2_with fail
      go_ret
      exact ⟨rfl, b1.then b2⟩
  · rw [code5_bad hx]
    have HX := Lib.hid hx
    clear hx
    go_enter Tryz.func74, Tryz.ntmps74
    go_wp2_with fail
    refine (l01Is_no x _ sx HX.out).mono ?_
    rintro e w1 ⟨rfl, b1⟩
    go_wp2_with fail
    go_ret
    exact ⟨rfl, b1⟩

end Go.Proofs.YtbhgghajbdlfkabGreat
