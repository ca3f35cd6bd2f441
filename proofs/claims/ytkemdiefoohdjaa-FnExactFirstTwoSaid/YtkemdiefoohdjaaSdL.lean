/- IsSeed, SeedsOf, LeastSeed: the model. -/
import Derived.Test.YtkemdiefoohdjaaSdS
namespace Go.Proofs.Ytkemdiefoohdjaa
set_option linter.unusedVariables false
set_option linter.unusedSimpArgs false
open Go.RowKit

set_option maxRecDepth 100000 in
theorem spec_IsSeed (x u : ByteArray) (w : World) (sx : x.size ≤ maxLen) (su : u.size ≤ maxLen) :
    Calls Try.prog 30 #[.string x, .string u] w fun e w' => e = .returned (.tuple #[.bool (isSeedR x u).1, .int .i64 (isSeedR x u).2]) ∧ Below w.heap.size w w' := by
  by_cases h : IsW x ∧ IsW u
  · by_cases k : u.size = 0
    · have e1 := codeR1_empty h k
      rw [isSeedR_out h (.inl k)]
      clear h k
      go_enter Try.func30, Try.ntmps30
      go_wp2_with (go_at_call 42; refine (l09Code1_any x u _ sx su _ (by simp) (by simp [go_sem])).mono ?_; rintro e w1 ⟨rfl, b1⟩)
      go_ret2
      exact ⟨rfl, (Below.new _ _).then b1⟩
    · have e1 := codeR1_ok h k
      by_cases k2 : x.size < u.size
      · rw [isSeedR_out h (.inr k2)]
        have hq : (u.size : Int) > (x.size : Int) := by omega
        have hd : decide (x.size < u.size) = true := decide_eq_true k2
        clear h k k2
        go_enter Try.func30, Try.ntmps30
        go_wp2_with (go_at_call 42; refine (l09Code1_any x u _ sx su _ (by simp) (by simp [go_sem])).mono ?_; rintro e w1 ⟨rfl, b1⟩)
        go_ret2
        exact ⟨rfl, (Below.new _ _).then b1⟩
      · rw [isSeedR_ok h (fun e => e.elim k k2)]
        have hq : ¬ (u.size : Int) > (x.size : Int) := by omega
        have hd : decide (x.size < u.size) = false := decide_eq_false k2
        have zx := h.1.size
        have hle : u.size ≤ x.size := by omega
        have hu1 : 1 ≤ u.size := by omega
        clear h k k2
        go_enter Try.func30, Try.ntmps30
        go_wp2_with (first | (go_at_call 42; refine (l09Code1_any x u _ sx su _ (by simp) (by simp [go_sem])).mono ?_; rintro e w1 ⟨rfl, b1⟩) | (go_at_call 62; refine (l09Seed_any x u _ zx hle hu1).mono ?_; rintro e w2 ⟨rfl, b2⟩))
        go_ret2
        exact ⟨rfl, ((Below.new _ _).then b1).then b2⟩
  · have e1 := codeR1_bad h
    rw [isSeedR_bad h]
    clear h
    go_enter Try.func30, Try.ntmps30
    go_wp2_with (go_at_call 42; refine (l09Code1_any x u _ sx su _ (by simp) (by simp [go_sem])).mono ?_; rintro e w1 ⟨rfl, b1⟩)
    go_ret2
    exact ⟨rfl, (Below.new _ _).then b1⟩

theorem facs_bound {x z : ByteArray} {m : Nat} (h : z ∈ facs x m) : z.size = m ∧ z.size ≤ x.size := by
  unfold facs at h
  obtain ⟨i, hi, rfl⟩ := (mem_facK x m z _).1 h
  rw [ByteArray.size_extract]; omega
theorem ownS_lkS {w : World} {B : Nat} {v : Value} {L : List ByteArray} (h : OwnS w B v L) : ∃ ad cap, v = .slice ad L.length cap ∧ ∀ j (hj : j < L.length), ∃ g, ad = some ⟨g, 0, none⟩ ∧ g < w.heap.size ∧ j < cap ∧ w.cell? ⟨g, j, none⟩ = some (.string (L[j]'hj)) := by
  rcases own_forms h with ⟨rfl, h0, _⟩ | ⟨g, cap, rfl, _, hg, hc, _, hk, _⟩
  · exact ⟨_, _, by rw [h0], fun j hj => by omega⟩
  · refine ⟨_, _, rfl, fun j hj => ⟨g, rfl, hg, by omega, ?_⟩⟩
    rw [hk j hj]
    simp [hj]
theorem filtS_hit {L : List ByteArray} {p : ByteArray → Bool} {k : Nat} (h : k < L.length) (hp : p (L[k]'h) = true) : (L.take (k + 1)).filter p = (L.take k).filter p ++ [L[k]'h] := by
  rw [List.take_succ_eq_append_getElem h, List.filter_append]; simp [hp]
theorem filtS_miss {L : List ByteArray} {p : ByteArray → Bool} {k : Nat} (h : k < L.length) (hp : p (L[k]'h) = false) : (L.take (k + 1)).filter p = (L.take k).filter p := by
  rw [List.take_succ_eq_append_getElem h, List.filter_append]; simp [hp]

set_option maxRecDepth 100000 in
set_option maxHeartbeats 2000000 in
theorem l09Seeds_any (x : ByteArray) (m : Nat) (w : World) (hx : x.size ≤ 60) (h1 : 1 ≤ m) (h2 : m ≤ 60) :
    Calls Try.prog 65 #[.string x, .int .i64 (m : Int)] w fun e w' => ∃ v, e = .returned v ∧ OwnS w' w.heap.size v (sds x m) ∧ Below w.heap.size w w' := by
  obtain ⟨i0, hi, hz0, hz1, hz2⟩ := info_parts infoStr
  have hf : ∀ W, Calls Try.prog 80 #[.string x, .int .i64 (m : Int)] W fun e w' => ∃ v, e = .returned v ∧ OwnS w' W.heap.size v (facs x m) ∧ Below W.heap.size W w' := fun W => l01Factors_any x m W hx h2
  have hl := facs_len x m
  have hz : ∀ z ∈ facs x m, z.size = m ∧ z.size ≤ x.size := fun z hz => facs_bound hz
  have hsd : sds x m = (facs x m).filter (sdAll x) := rfl
  rw [hsd]
  clear hsd
  generalize facs x m = L at *
  have HF := Lib.hid hf
  have HZ := Lib.hid hz
  clear hf hz
  go_enter Try.func65, Try.ntmps65
  go_wp2_with (go_at_call 80; refine (HF.out _).mono ?_; rintro e w1 ⟨v1, rfl, o1, b1⟩; obtain ⟨ad, cap, rfl, look⟩ := ownS_lkS o1)
  have LK := Lib.hid look
  clear look o1
  have hb1z := b1.size
  go_loopw [6, 7] (fun s6 s7 wr => ∃ k : Nat, k ≤ L.length ∧ s7 = .int .i64 (k : Int) ∧ OwnS wr w1.heap.size s6 ((L.take k).filter (sdAll x)) ∧ Below w1.heap.size w1 wr)
    (fun _ s7 _ => L.length - (intOf s7).toNat)
  case atStart => exact ⟨0, Nat.zero_le _, rfl, own_base (World.ownsRow_lit w1 #[] 0 (Nat.le_refl _) (by decide) (by simp)) (Nat.le_refl _), Below.new _ _⟩
  case round =>
    obtain ⟨k, hk, rfl, hown, hB⟩ := hrel
    have hbz := hB.size
    by_cases hp : k < L.length
    · obtain ⟨g, rfl, hg2, hg3, hg4⟩ := LK.out k hp
      have kc : wr.cell? ⟨g, k, none⟩ = some (.string (L[k]'hp)) := by rw [(bcell hB).1 g k hg2]; exact hg4
      have hkn : (k : Int) < (L.length : Int) := by omega
      have hk0 : (0 : Int) ≤ (k : Int) := by omega
      obtain ⟨zm, zx⟩ := HZ.out _ (List.getElem_mem hp)
      have hc := fun W => l09Seed_any x (L[k]'hp) W hx zx (by omega)
      have hkd : ∀ W, Below wr.heap.size wr W → W.cell? ⟨g, k, none⟩ = some (.string (L[k]'hp)) := fun W b => by rw [(bcell b).1 g k (by omega)]; exact kc
      clear hg4 zm zx
      have hfl : ((L.take k).filter (sdAll x)).length ≤ 4096 := by
        have h1 := List.length_filter_le (sdAll x) (L.take k)
        rw [List.length_take] at h1
        omega
      cases ht : sdAll x (L[k]'hp) with
      | false =>
        have HS := Lib.hid (filtS_miss hp ht)
        rw [ht] at hc
        have HC := Lib.hid hc
        clear hc ht hkd
        generalize L[k]'hp = z at *
        go_wp2_with (go_at_call 62; refine (HC.out _).mono ?_; rintro e w2 ⟨rfl, b2⟩)
        go_roundw
        case rel => exact ⟨k + 1, by omega, by go_num, by rw [HS.out]; exact own_below hown b2, hB.then b2⟩
        case measure => simp [intOf]; omega
      | true =>
        have HS := Lib.hid (filtS_hit hp ht)
        rw [ht] at hc
        have HC := Lib.hid hc
        have HKD := Lib.hid hkd
        clear hc ht hkd
        generalize L[k]'hp = z at *
        generalize (L.take k).filter (sdAll x) = M at *
        go_wp2_with (first | (go_at_call 62; refine (HC.out _).mono ?_; rintro e w2 ⟨rfl, b2⟩; have hown1 : OwnS w2 w1.heap.size u6 M := own_below hown b2; have b2z := b2.size; have kc2 := HKD.out _ b2) | (at_builtin; refine wpList_append_own _ rfl _ _ 25 rfl w1.heap.size 9 i0 (.string ⟨#[]⟩) 1 16 Try.underlying25 hi hz0 hz1 hz2 rfl (by decide) _ _ _ rfl (World.ownsRow.alloc hown1 _) ⟨_, 0, none⟩ 1 1 [.string z] rfl rfl (cell_new _ _ _) (by intro u hu; simp at hu; subst hu; rfl) (by unfold maxLen; omega) (by omega) (by simp; omega) ?_; intro v' w3 hown' hgrow _))
        go_roundw
        case rel =>
          refine ⟨k + 1, by omega, by go_num, by rw [HS.out]; exact ownS_put hown', ?_⟩
          exact ((hB.then b2).alloc (by omega) _).grown hgrow (by simp; omega) (fun q hq => (hown1.lt q hq).1)
        case measure => simp [intOf]; omega
    · obtain rfl : k = L.length := by omega
      have hkn : ¬ (L.length : Int) < (L.length : Int) := by omega
      rw [List.take_length] at hown
      go_wp2_with fail
      go_ret
      exact ⟨_, rfl, own_base hown hb1z, b1.then hB⟩

def lenC (x : ByteArray) (m : Int) : Int := if ¬ IsW x then 1 else if m < 1 ∨ 60 < m then 2 else 0
theorem l09Length_any (x : ByteArray) (m : Int) (w : World) (sx : x.size ≤ maxLen) :
    Calls Try.prog 64 #[.string x, .int .i64 m] w fun e w' => e = .returned (.int .i64 (lenC x m)) ∧ Below w.heap.size w w' := by
  by_cases h : IsW x
  · have H := Lib.hid h
    by_cases k : m < 1 ∨ 60 < m
    · have e1 : lenC x m = 2 := by unfold lenC; rw [if_neg (not_not_intro h), if_pos k]
      have hk : ¬ (1 ≤ m ∧ m ≤ 60) := by omega
      clear h k
      go_enter Try.func64, Try.ntmps64
      go_wp2_with (first | (go_at_call 49; refine (l01Is_yes x _ H.out).mono ?_; rintro e w1 ⟨rfl, a1⟩) | (go_at_call 89; refine (l01In_no _ _ _ _ hk).mono ?_; rintro e w2 ⟨rfl, a2⟩))
      go_ret
      exact ⟨by first | rfl | (rw [e1]; rfl), a1.then a2⟩
    · have e1 : lenC x m = 0 := by unfold lenC; rw [if_neg (not_not_intro h), if_neg k]
      have hk1 : 1 ≤ m := by omega
      have hk2 : m ≤ 60 := by omega
      clear h k
      go_enter Try.func64, Try.ntmps64
      go_wp2_with (first | (go_at_call 49; refine (l01Is_yes x _ H.out).mono ?_; rintro e w1 ⟨rfl, a1⟩) | (go_at_call 89; refine (l01In_yes _ _ _ _ hk1 hk2).mono ?_; rintro e w2 ⟨rfl, a2⟩))
      go_ret
      exact ⟨by first | rfl | (rw [e1]; rfl), a1.then a2⟩
  · have H := Lib.hid h
    have e1 : lenC x m = 1 := by unfold lenC; rw [if_pos h]
    clear h
    go_enter Try.func64, Try.ntmps64
    go_wp2_with (go_at_call 49; refine (l01Is_no x _ sx H.out).mono ?_; rintro e w1 ⟨rfl, a1⟩)
    go_ret
    exact ⟨by first | rfl | (rw [e1]; rfl), a1⟩

set_option maxRecDepth 100000 in
theorem spec_SeedsOf (x : ByteArray) (m : Int) (w : World) (sx : x.size ≤ maxLen) (wm : (Lit.int .i64 m).wf = true) :
    Calls Try.prog 32 #[.string x, .int .i64 m] w (RetS (seedsR x m).1 (seedsR x m).2 w) := by
  by_cases h : IsW x
  · by_cases k : m < 1 ∨ 60 < m
    · have e1 : lenC x m = 2 := by unfold lenC; rw [if_neg (not_not_intro h), if_pos k]
      rw [seedsR_out h k]
      clear h k
      go_enter Try.func32, Try.ntmps32
      go_wp2_with (go_at_call 64; refine (l09Length_any x m _ sx).mono ?_; rintro e w1 ⟨rfl, a1⟩)
      go_ret2
      exact ⟨_, rfl, OwnS.nil _ _, a1⟩
    · have e1 : lenC x m = 0 := by unfold lenC; rw [if_neg (not_not_intro h), if_neg k]
      obtain ⟨n, rfl⟩ : ∃ n : Nat, m = n := ⟨m.toNat, by omega⟩
      rw [seedsR_ok h (by omega) (by omega)]
      have hx := h.size
      have h1 : 1 ≤ n := by omega
      have h2 : n ≤ 60 := by omega
      clear h k
      go_enter Try.func32, Try.ntmps32
      go_wp2_with (first | (go_at_call 64; refine (l09Length_any x n _ sx).mono ?_; rintro e w1 ⟨rfl, a1⟩) | (go_at_call 65; refine (l09Seeds_any x n _ hx h1 h2).mono ?_; rintro e w2 ⟨v, rfl, o2, a2⟩))
      go_ret2
      exact ⟨_, rfl, o2.base a1.size, a1.then a2⟩
  · have e1 : lenC x m = 1 := by unfold lenC; rw [if_pos h]
    rw [seedsR_bad h]
    clear h
    go_enter Try.func32, Try.ntmps32
    go_wp2_with (go_at_call 64; refine (l09Length_any x m _ sx).mono ?_; rintro e w1 ⟨rfl, a1⟩)
    go_ret2
    exact ⟨_, rfl, OwnS.nil _ _, a1⟩

set_option maxRecDepth 100000 in
set_option maxHeartbeats 2000000 in
theorem spec_LeastSeed (x : ByteArray) (w : World) (sx : x.size ≤ maxLen) :
    Calls Try.prog 34 #[.string x] w fun e w' => e = .returned (.tuple #[.string (leastSeedR x).1, .int .i64 (leastSeedR x).2]) ∧ Below w.heap.size w w' := by
  by_cases h : IsW x
  · by_cases h0 : x.size = 0
    · rw [leastSeedR_empty h h0]
      have hq := nil_yesS h0
      have H := Lib.hid h
      clear h
      go_enter Try.func34, Try.ntmps34
      go_wp2_with (go_at_call 49; refine (l01Is_yes x _ H.out).mono ?_; rintro e w1 ⟨rfl, a1⟩)
      go_ret2
      exact ⟨rfl, a1⟩
    · rw [leastSeedR_ok h h0]
      have hq := nil_noS h0
      have hx := h.size
      have H := Lib.hid h
      clear h
      go_enter Try.func34, Try.ntmps34
      go_wp2_with (go_at_call 49; refine (l01Is_yes x _ H.out).mono ?_; rintro e w1 ⟨rfl, a1⟩)
      go_loopw [4] (fun s4 wr => ∃ k : Nat, k + 1 ≤ x.size ∧ s4 = .int .i64 ((k : Int) + 1) ∧ Hid (∀ i, i < k → sds x (i + 1) = []) ∧ Below w1.heap.size w1 wr)
        (fun s4 _ => x.size + 2 - (intOf s4).toNat)
      case atStart => exact ⟨0, by omega, rfl, Lib.hid (fun i hi => by omega), Below.refl _ _⟩
      case round =>
        obtain ⟨k, hk, rfl, hi, hB⟩ := hrel
        by_cases hp : k + 1 < x.size
        · obtain ⟨m, hm⟩ : ∃ m : Nat, k + 1 = m := ⟨_, rfl⟩
          have em : (k : Int) + 1 = (m : Int) := by omega
          have hml : (m : Int) < (x.size : Int) := by omega
          have hm1 : 1 ≤ m := by omega
          have hm2 : m ≤ 60 := by omega
          by_cases hz : 0 < (sds x m).length
          · have hq2 : ((sds x m).length : Int) > 0 := by omega
            have e1 : Hid (∀ h : 0 < (sds x m).length, (sds x m)[0]'h = ls x) := Lib.hid fun h => by
              have := ls_at (k := k) (by omega) hi.out (by rw [hm]; exact h)
              simp only [hm] at this
              exact this.symm
            have SO := Lib.hid (fun W => l09Seeds_any x m W hx hm1 hm2)
            clear hi
            generalize sds x m = L at *
            go_wp2_with (go_at_call 65; refine (SO.out _).mono ?_; rintro e w3 ⟨v3, rfl, o3, a3⟩; obtain ⟨g4, c4, rfl, z1, z2, z3, z4, z5, z6⟩ := o3.row hz; have y1 := z5 0 hz; rw [e1.out hz] at y1; clear z5)
            go_ret2
            exact ⟨rfl, (a1.then hB).then a3⟩
          · have hq2 : ¬ ((sds x m).length : Int) > 0 := by omega
            have e1 : sds x m = [] := List.eq_nil_of_length_eq_zero (by omega)
            have hi2 : Hid (∀ i, i < k + 1 → sds x (i + 1) = []) := Lib.hid fun i hi1 => by
              by_cases e : i = k
              · subst e; rw [hm]; exact e1
              · exact hi.out i (by omega)
            clear hi
            go_wp2_with (go_at_call 65; refine (l09Seeds_any x m _ hx hm1 hm2).mono ?_; rintro e w3 ⟨v3, rfl, o3, a3⟩; obtain ⟨ad3, cp3, rfl⟩ := ownS_lk o3)
            go_roundw
            case rel => exact ⟨k + 1, by omega, by go_num, hi2, hB.then a3⟩
            case measure => simp [intOf]; omega
        · have hkn : ¬ ((k : Int) + 1) < (x.size : Int) := by omega
          have e1 : ls x = x := ls_self (by omega) (fun i hi1 => hi.out i (by omega))
          clear hi
          go_wp2_with fail
          go_ret2
          exact ⟨by first | rfl | (rw [e1]; rfl), a1.then hB⟩
  · rw [leastSeedR_bad h]
    have H := Lib.hid h
    clear h
    go_enter Try.func34, Try.ntmps34
    go_wp2_with (go_at_call 49; refine (l01Is_no x _ sx H.out).mono ?_; rintro e w1 ⟨rfl, a1⟩)
    go_ret2
    exact ⟨rfl, a1⟩

end Go.Proofs.Ytkemdiefoohdjaa
