/- What FnCritical rests on, in one text. -/
import Derived.Test.YtinanajagkilaaaLuPlain
import Derived.Test.YtinanajagkilaaaCftPlain
import Derived.Test.YtinanajagkilaaaLoc
import Derived.Test.YtinanajagkilaaaBorders
import Derived.Test.YtinanajagkilaaaReverse64
import Derived.Test.YtinanajagkilaaaDrawIn
import Derived.Test.YtinanajagkilaaaExp
import Derived.Test.YtinanajagkilaaaFactor
import Derived.WalkMore
import Derived.Deep.LoopGhost
import Derived.Test.YtinanajagkilaaaMarks
import Derived.Test.YtinanajagkilaaaScopeIn

/-! ### FnCritPlain -/
namespace Go.Proofs.Ytinanajagkilaaa
set_option linter.unusedVariables false
set_option linter.unusedSimpArgs false

theorem per_part {x : ByteArray} {p i m : Nat} (h : Per (bl x) p) : Per (bl (x.extract i (i + m))) p := by
  intro j hj
  rw [bl_extract, List.length_take, List.length_drop] at hj
  rw [bl_extract, List.getElem?_take_of_lt (by omega), List.getElem?_take_of_lt (by omega), List.getElem?_drop, List.getElem?_drop, show i + (j + p) = i + j + p by omega]
  exact h (i + j) (by omega)
/-- It is a factor, not empty, with no period below its length. -/
theorem luF_ok {x : ByteArray} (h0 : 0 < x.size) : ∀ m, m ≤ x.size → ∃ i, luF x m = x.extract i (i + (luF x m).size) ∧ 0 < (luF x m).size ∧ lp (bl (luF x m)) = (luF x m).size := by
  have one : ∃ i, x.extract 0 1 = x.extract i (i + (x.extract 0 1).size) ∧ 0 < (x.extract 0 1).size ∧ lp (bl (x.extract 0 1)) = (x.extract 0 1).size := by
    have hs : (x.extract 0 1).size = 1 := by simp; omega
    refine ⟨0, by rw [hs], by omega, ?_⟩
    have h := lp_ok (bl_ne (x := x.extract 0 1) (by omega))
    have h1 := h.1
    have h2 := h.2.1
    rw [bl_len] at h2
    omega
  intro m
  induction m using Nat.strongRecOn with
  | _ m ih =>
    intro hm
    by_cases h2 : 2 ≤ m
    · cases e : luI x m 0 (x.size + 1 - m) with
      | none =>
        rw [luF_miss h2 e]
        exact ih (m - 1) (by omega) (by omega)
      | some i =>
        obtain ⟨_, h3, h4⟩ := luI_lt _ _ e
        rw [luF_hit h2 e]
        have hs : (x.extract i (i + m)).size = m := by simp; omega
        exact ⟨i, by rw [hs], by omega, by rw [hs]; exact h4⟩
    · rw [luF_low x (by omega)]
      exact one
theorem luF_le {x : ByteArray} (h0 : 0 < x.size) : (luF x x.size).size ≤ lp (bl x) := by
  obtain ⟨i, h1, h2, h3⟩ := luF_ok h0 x.size (Nat.le_refl _)
  have hl := lp_ok (bl_ne h0)
  have hp : Per (bl (luF x x.size)) (lp (bl x)) := by rw [h1]; exact per_part hl.2.2.1
  have := lp_le (bl_ne h2) hl.1 hp
  omega
/-- A word whose least period is its length has the empty border alone. -/
theorem one_border {y : ByteArray} (h0 : 0 < y.size) (h : lp (bl y) = y.size) : (bordsR (bl y) y.size).length = 1 := by
  have hl := lp_ok (bl_ne h0)
  have e : (bordsR (bl y) (bl y).length).length = (persR (bl y) (bl y).length).length := by rw [bords_eq]; simp
  rw [bl_len] at e
  rw [e]
  obtain ⟨k, hk⟩ : ∃ k, y.size = k + 1 := ⟨y.size - 1, by omega⟩
  have hn : persR (bl y) k = [] := pers_none k fun q q0 q1 => hl.2.2.2 q q0 (by omega)
  have hp : perT (bl y) (k + 1) = true := (perT_iff _ _).2 (by rw [← hk, ← bl_len]; exact per_all _)
  rw [hk, persR_hit _ _ hp, hn]
  rfl

end Go.Proofs.Ytinanajagkilaaa

/-! ### Crit -/
namespace Go.Proofs.Ytinanajagkilaaa
set_option linter.unusedVariables false
set_option linter.unusedSimpArgs false
open Go.RowKit

noncomputable def locR (x : ByteArray) (i : Int) : Int × Int := if ¬ IsW x then (0, 1) else if i < 1 ∨ (x.size : Int) ≤ i then (0, 2) else ((loc (bl x) i.toNat : Int), 0)
theorem locR_bad {x : ByteArray} {i : Int} (h : ¬ IsW x) : locR x i = (0, 1) := if_pos h
theorem locR_out {x : ByteArray} {i : Int} (h : IsW x) (hi : i < 1 ∨ (x.size : Int) ≤ i) : locR x i = (0, 2) := by unfold locR; rw [if_neg (not_not_intro h), if_pos hi]
theorem locR_ok {x : ByteArray} {i : Nat} (h : IsW x) (h1 : 1 ≤ i) (h2 : i < x.size) : locR x (i : Int) = ((loc (bl x) i : Int), 0) := by unfold locR; rw [if_neg (not_not_intro h), if_neg (by omega)]; rfl

set_option maxRecDepth 100000 in
theorem impl_LocalPeriod (x : ByteArray) (i : Int) (w : World) (sx : x.size ≤ maxLen) (wi : (Lit.int .i64 i).wf = true) :
    Calls Try.prog 41 #[.string x, .int .i64 i] w fun e w' => e = .returned (.tuple #[.int .i64 (locR x i).1, .int .i64 (locR x i).2]) ∧ Below w.heap.size w w' := by
  by_cases h : IsW x
  · have h1 := h.size
    by_cases hi : i < 1 ∨ (x.size : Int) ≤ i
    · rw [locR_out h hi]
      have H := Lib.hid h
      clear h
      by_cases h2 : i < 1
      · go_enter Try.func41, Try.ntmps41
        go_wp2_with fail
        refine (isWord_yes x _ H.out).mono ?_
        rintro e w1 ⟨rfl, b1⟩
        go_wp2_with fail
        go_ret2
        exact ⟨rfl, b1⟩
      · have h3 : (x.size : Int) ≤ i := by omega
        clear hi
        go_enter Try.func41, Try.ntmps41
        go_wp2_with fail
        refine (isWord_yes x _ H.out).mono ?_
        rintro e w1 ⟨rfl, b1⟩
        go_wp2_with fail
        go_ret2
        exact ⟨rfl, b1⟩
    · obtain ⟨n, rfl⟩ := Int.eq_ofNat_of_zero_le (show 0 ≤ i by omega)
      have n1 : 1 ≤ n := by omega
      have n2 : n < x.size := by omega
      clear hi
      rw [locR_ok h n1 n2]
      have H := Lib.hid h
      clear h
      go_enter Try.func41, Try.ntmps41
      go_wp2_with fail
      refine (isWord_yes x _ H.out).mono ?_
      rintro e w1 ⟨rfl, b1⟩
      go_wp2_with fail
      refine (localPeriod_any x n _ h1 n1 n2).mono ?_
      rintro e w2 ⟨rfl, b2⟩
      go_wp2_with fail
      go_ret2
      exact ⟨rfl, b1.then b2⟩
  · rw [locR_bad h]
    have H := Lib.hid h
    clear h
    go_enter Try.func41, Try.ntmps41
    go_wp2_with fail
    refine (isWord_not x _ sx H.out).mono ?_
    rintro e w1 ⟨rfl, b1⟩
    go_wp2_with fail
    go_ret2
    exact ⟨rfl, b1⟩

set_option maxRecDepth 100000 in
theorem spec_LocalPeriod (x : ByteArray) (i : Int) (w : World) (sx : x.size ≤ maxLen) (wi : (Lit.int .i64 i).wf = true) :
    Calls Try.prog 42 #[.string x, .int .i64 i] w fun e w' => e = .returned (.tuple #[.int .i64 (locR x i).1, .int .i64 (locR x i).2]) ∧ Below w.heap.size w w' := by
  by_cases h : IsW x
  · have h1 := h.size
    by_cases hi : i < 1 ∨ (x.size : Int) ≤ i
    · rw [locR_out h hi]
      have H := Lib.hid h
      have HI := Lib.hid hi
      clear h hi
      go_enter Try.func42, Try.ntmps42
      go_wp2_with fail
      refine (l01Is_yes x _ H.out).mono ?_
      rintro e w1 ⟨rfl, b1⟩
      go_wp2_with fail
      refine (l01In_no _ _ _ _ (by have := HI.out; omega)).mono ?_
      rintro e w2 ⟨rfl, b2⟩
      go_wp2_with fail
      go_ret2
      exact ⟨rfl, b1.then b2⟩
    · obtain ⟨n, rfl⟩ := Int.eq_ofNat_of_zero_le (show 0 ≤ i by omega)
      have n1 : 1 ≤ n := by omega
      have n2 : n < x.size := by omega
      clear hi
      rw [locR_ok h n1 n2]
      have H := Lib.hid h
      clear h
      go_enter Try.func42, Try.ntmps42
      go_wp2_with fail
      refine (l01Is_yes x _ H.out).mono ?_
      rintro e w1 ⟨rfl, b1⟩
      go_wp2_with fail
      refine (l01In_yes _ _ _ _ (by omega) (by omega)).mono ?_
      rintro e w2 ⟨rfl, b2⟩
      go_wp2_with fail
      refine (l02Local_any x n _ h1 n1 n2).mono ?_
      rintro e w3 ⟨rfl, b3⟩
      go_wp2_with fail
      go_ret2
      exact ⟨rfl, (b1.then b2).then b3⟩
  · rw [locR_bad h]
    have H := Lib.hid h
    clear h
    go_enter Try.func42, Try.ntmps42
    go_wp2_with fail
    refine (l01Is_no x _ sx H.out).mono ?_
    rintro e w1 ⟨rfl, b1⟩
    go_wp2_with fail
    go_ret2
    exact ⟨rfl, b1⟩

noncomputable def critsR (x : ByteArray) : List Int × Int := if ¬ IsW x then ([], 1) else (critR (bl x) (x.size - 1), 0)
theorem critsR_bad {x : ByteArray} (h : ¬ IsW x) : critsR x = ([], 1) := if_pos h
theorem critsR_ok {x : ByteArray} (h : IsW x) : critsR x = (critR (bl x) (x.size - 1), 0) := by unfold critsR; rw [if_neg (not_not_intro h)]
theorem critsR_len (x : ByteArray) : (critsR x).1.length ≤ 4096 := by
  by_cases h : IsW x
  · rw [critsR_ok h]; have h1 := h.size; have h2 := critR_len (bl x) (x.size - 1); show (critR (bl x) (x.size - 1)).length ≤ 4096; omega
  · rw [critsR_bad h]; decide

set_option maxRecDepth 100000 in
set_option maxHeartbeats 1000000 in
theorem impl_CriticalPlaces (x : ByteArray) (w : World) (sx : x.size ≤ maxLen) :
    Calls Try.prog 38 #[.string x] w (RetI (critsR x).1 (critsR x).2 w) := by
  obtain ⟨i0, hi, hz0, hz1, hz2⟩ := info_parts infoI64
  by_cases h : IsW x
  · rw [critsR_ok h]
    have h1 := h.size
    have H := Lib.hid h
    clear h
    go_enter Try.func38, Try.ntmps38
    go_wp2_with fail
    refine (isWord_yes x _ H.out).mono ?_
    rintro e w1 ⟨rfl, b1⟩
    go_wp2_with fail
    go_loopw [4, 5] (fun v i wr => ∃ k : Nat, k ≤ x.size - 1 ∧ i = .int .i64 ((k : Int) + 1) ∧ OwnI wr w.heap.size v (critR (bl x) k) ∧ Below w.heap.size w wr)
      (fun _ i _ => x.size + 1 - (intOf i).toNat)
    case atStart => exact ⟨0, Nat.zero_le _, rfl, OwnI.nil _ _, b1⟩
    case round =>
      obtain ⟨k, hk, rfl, hown, hB⟩ := hrel
      have hbz := hB.size
      have hlen := critR_len (bl x) k
      by_cases hp : k + 1 < x.size
      · have cL := localPeriod_any x (k + 1) wr h1 (by omega) hp
        have CP := Lib.hid fun w => leastPeriod_any x w h1 (by omega)
        rw [show ((k + 1 : Nat) : Int) = (k : Int) + 1 by omega] at cL
        have CL := Lib.hid cL
        clear cL
        by_cases he : loc (bl x) (k + 1) = lp (bl x)
        · have HS := Lib.hid (critR_hit (bl x) k he)
          rw [he] at CL
          clear he
          generalize critR (bl x) k = L at hown hlen HS
          generalize lp (bl x) = a at *
          go_wp2_with fail
          refine CL.out.mono ?_
          rintro e w2 ⟨rfl, b2⟩
          go_wp2_with fail
          refine (CP.out _).mono ?_
          rintro e w3 ⟨rfl, b3⟩
          have hown2 := (hown.below b2).below b3
          have hB2 := (hB.then b2).then b3
          have hbz2 := hB2.size
          clear hown hB hbz b2 b3
          go_wp2_with (at_builtin; refine wpList_append_own _ rfl _ _ 26 rfl w.heap.size 2 i0 (.int .i64 0) 1 8 Try.underlying26 hi hz0 hz1 hz2 rfl (by decide) _ _ _ rfl (hown2.alloc _) ⟨_, 0, none⟩ 1 1 [.int .i64 ((k : Int) + 1)] rfl rfl (cell_new _ _ _) (by intro u hu; simp at hu; subst hu; rfl) (by unfold maxLen; omega) (by omega) (by simp; omega) ?_; intro v' w4 hown' hgrow _)
          go_roundw
          case rel =>
            refine ⟨k + 1, by omega, by go_num, ?_, ?_⟩
            · unfold OwnI; rw [HS.out, List.length_append, ← map_snoc]; exact hown'
            · exact (hB2.alloc hbz2 _).grown hgrow (by simp; omega) (fun q hq => (hown2.lt q hq).1)
          case measure => simp [intOf]; omega
        · have HS := Lib.hid (critR_miss (bl x) k he)
          have hee : ¬ ((loc (bl x) (k + 1) : Nat) : Int) = (lp (bl x) : Int) := by omega
          clear he
          generalize loc (bl x) (k + 1) = b at *
          generalize lp (bl x) = a at *
          go_wp2_with fail
          refine CL.out.mono ?_
          rintro e w2 ⟨rfl, b2⟩
          go_wp2_with fail
          refine (CP.out _).mono ?_
          rintro e w3 ⟨rfl, b3⟩
          go_wp2_with fail
          go_roundw
          case rel => exact ⟨k + 1, by omega, by go_num, by rw [HS.out]; exact (hown.below b2).below b3, (hB.then b2).then b3⟩
          case measure => simp [intOf]; omega
      · have hke : k = x.size - 1 := by omega
        have HO := Lib.hid hown
        have HK := Lib.hid hke
        clear hown
        go_wp2
        go_ret2
        rw [← HK.out]
        exact ⟨_, rfl, HO.out, hB⟩
  · rw [critsR_bad h]
    have H := Lib.hid h
    clear h
    go_enter Try.func38, Try.ntmps38
    go_wp2_with fail
    refine (isWord_not x _ sx H.out).mono ?_
    rintro e w1 ⟨rfl, b1⟩
    go_wp2_with fail
    go_ret2
    exact ⟨_, rfl, OwnI.nil _ _, b1⟩

set_option maxRecDepth 100000 in
set_option maxHeartbeats 1000000 in
theorem spec_CriticalPlaces (x : ByteArray) (w : World) (sx : x.size ≤ maxLen) :
    Calls Try.prog 39 #[.string x] w (RetI (critsR x).1 (critsR x).2 w) := by
  obtain ⟨i0, hi, hz0, hz1, hz2⟩ := info_parts infoI64
  by_cases h : IsW x
  · rw [critsR_ok h]
    have h1 := h.size
    have H := Lib.hid h
    clear h
    go_enter Try.func39, Try.ntmps39
    go_wp2_with fail
    refine (l01Is_yes x _ H.out).mono ?_
    rintro e w1 ⟨rfl, b1⟩
    go_wp2_with fail
    go_loopw [4, 5] (fun v i wr => ∃ k : Nat, k ≤ x.size - 1 ∧ i = .int .i64 ((k : Int) + 1) ∧ OwnI wr w.heap.size v (critR (bl x) k) ∧ Below w.heap.size w wr)
      (fun _ i _ => x.size + 1 - (intOf i).toNat)
    case atStart => exact ⟨0, Nat.zero_le _, rfl, OwnI.lit0 w1 b1.size, b1.alloc b1.size _⟩
    case round =>
      obtain ⟨k, hk, rfl, hown, hB⟩ := hrel
      have hbz := hB.size
      have hlen := critR_len (bl x) k
      by_cases hp : k + 1 < x.size
      · have cL := l02Local_any x (k + 1) wr h1 (by omega) hp
        have CP := Lib.hid fun w => l02Periods_first x w h1 (by omega)
        rw [show ((k + 1 : Nat) : Int) = (k : Int) + 1 by omega] at cL
        have CL := Lib.hid cL
        clear cL
        by_cases he : loc (bl x) (k + 1) = lp (bl x)
        · have HS := Lib.hid (critR_hit (bl x) k he)
          rw [he] at CL
          clear he
          generalize critR (bl x) k = L at hown hlen HS
          generalize lp (bl x) = a at *
          go_wp2_with fail
          refine CL.out.mono ?_
          rintro e w2 ⟨rfl, b2⟩
          go_wp2_with fail
          refine (CP.out _).mono ?_
          rintro e w3 ⟨g, n, cp, rfl, hn, hc, k1, b3⟩
          have hown2 := (hown.below b2).below b3
          have hB2 := (hB.then b2).then b3
          have hbz2 := hB2.size
          clear hown hB hbz b2 b3
          go_wp2_with (at_builtin; refine wpList_append_own _ rfl _ _ 26 rfl w.heap.size 2 i0 (.int .i64 0) 1 8 Try.underlying26 hi hz0 hz1 hz2 rfl (by decide) _ _ _ rfl (hown2.alloc _) ⟨_, 0, none⟩ 1 1 [.int .i64 ((k : Int) + 1)] rfl rfl (cell_new _ _ _) (by intro u hu; simp at hu; subst hu; rfl) (by unfold maxLen; omega) (by omega) (by simp; omega) ?_; intro v' w4 hown' hgrow _)
          go_roundw
          case rel =>
            refine ⟨k + 1, by omega, by go_num, ?_, ?_⟩
            · unfold OwnI; rw [HS.out, List.length_append, ← map_snoc]; exact hown'
            · exact (hB2.alloc hbz2 _).grown hgrow (by simp; omega) (fun q hq => (hown2.lt q hq).1)
          case measure => simp [intOf]; omega
        · have HS := Lib.hid (critR_miss (bl x) k he)
          have hee : ¬ ((loc (bl x) (k + 1) : Nat) : Int) = (lp (bl x) : Int) := by omega
          clear he
          generalize loc (bl x) (k + 1) = b at *
          generalize lp (bl x) = a at *
          go_wp2_with fail
          refine CL.out.mono ?_
          rintro e w2 ⟨rfl, b2⟩
          go_wp2_with fail
          refine (CP.out _).mono ?_
          rintro e w3 ⟨g, n, cp, rfl, hn, hc, k1, b3⟩
          go_wp2_with fail
          go_roundw
          case rel => exact ⟨k + 1, by omega, by go_num, by rw [HS.out]; exact (hown.below b2).below b3, (hB.then b2).then b3⟩
          case measure => simp [intOf]; omega
      · have hke : k = x.size - 1 := by omega
        have HO := Lib.hid hown
        have HK := Lib.hid hke
        clear hown
        go_wp2
        go_ret2
        rw [← HK.out]
        exact ⟨_, rfl, HO.out, hB⟩
  · rw [critsR_bad h]
    have H := Lib.hid h
    clear h
    go_enter Try.func39, Try.ntmps39
    go_wp2_with fail
    refine (l01Is_no x _ sx H.out).mono ?_
    rintro e w1 ⟨rfl, b1⟩
    go_wp2_with fail
    go_ret2
    exact ⟨_, rfl, OwnI.nil _ _, b1⟩

end Go.Proofs.Ytinanajagkilaaa

/-! ### FnCritGood -/
namespace Go.Proofs.Ytinanajagkilaaa
set_option linter.unusedVariables false
set_option linter.unusedSimpArgs false

theorem IsW.part {x : ByteArray} (h : IsW x) (a b : Nat) : IsW (x.extract a b) := by
  have h1 := h.size
  refine ⟨by simp; omega, fun i hi => ?_⟩
  have hi2 : i < b - a ∧ a + i < x.size := by simp at hi; omega
  have e : (x.extract a b)[i]'hi = x[a + i]'hi2.2 := by simp [ByteArray.getElem_extract]
  rw [e]
  exact h.2 _ _
/-- Of the longest factor without a border. -/
theorem crit_long (v : ByteArray) (h : (luR v).2 = 0) : 1 ≤ (luR v).1.size ∧ (luR v).1.size ≤ 60 ∧ (bordersR (luR v).1).2 = 0 ∧ (bordersR (luR v).1).1.length = 1 ∧ (periodsR v).2 = 0 ∧ ∃ p t, (periodsR v).1 = p :: t ∧ ((luR v).1.size : Int) ≤ p ∧ p ≤ 60 := by
  by_cases hw : IsW v
  · by_cases h0 : v.size = 0
    · rw [luR_nil hw h0] at h; cases h
    · have hp : 0 < v.size := by omega
      obtain ⟨i, h1, h2, h3⟩ := luF_ok hp v.size (Nat.le_refl _)
      have hle := luF_le hp
      have hwl : IsW (luF v v.size) := by rw [h1]; exact hw.part _ _
      obtain ⟨t, ht⟩ := pers_head (bl_ne hp)
      have hl := (lp_ok (bl_ne hp)).2.1
      have h60 := hw.size
      rw [bl_len] at ht hl
      rw [luR_ok hw h0, periodsR_ok hw]
      dsimp only
      rw [bordersR_ok hwl]
      exact ⟨h2, hwl.size, rfl, one_border h2 h3, rfl, _, t, ht, by omega, by omega⟩
  · rw [luR_bad hw] at h; cases h

/-- Of a local period. -/
theorem crit_local (u : ByteArray) (i : Int) (h : (locR u i).2 = 0) : (periodsR u).2 = 0 ∧ 1 ≤ (locR u i).1 ∧ (locR u i).1 ≤ 60 ∧ ∃ p t, (periodsR u).1 = p :: t ∧ (locR u i).1 ≤ p ∧ p ≤ 60 := by
  by_cases hw : IsW u
  · by_cases hi : i < 1 ∨ (u.size : Int) ≤ i
    · rw [locR_out hw hi] at h; cases h
    · obtain ⟨n, rfl⟩ := Int.eq_ofNat_of_zero_le (show 0 ≤ i by omega)
      have hp : 0 < u.size := by omega
      have h1 := loc_pos (bl u) n
      have h2 := loc_le_lp (bl_ne hp) n
      obtain ⟨t, ht⟩ := pers_head (bl_ne hp)
      have hl := (lp_ok (bl_ne hp)).2.1
      have h60 := hw.size
      rw [bl_len] at ht hl
      rw [locR_ok hw (by omega) (by omega), periodsR_ok hw]
      exact ⟨rfl, by show (1 : Int) ≤ (loc (bl u) n : Int); omega, by show (loc (bl u) n : Int) ≤ 60; omega, _, t, ht, by show (loc (bl u) n : Int) ≤ _; omega, by omega⟩
  · rw [locR_bad hw] at h; cases h

theorem mem_critR {l : List UInt8} {N : Nat} {z : Int} : z ∈ critR l N ↔ ∃ i : Nat, i < N ∧ loc l (i + 1) = lp l ∧ z = (i : Int) + 1 := by
  unfold critR
  simp only [List.mem_map, List.mem_filter, List.mem_range, decide_eq_true_eq]
  constructor
  · rintro ⟨i, ⟨h1, h2⟩, rfl⟩; exact ⟨i, h1, h2, rfl⟩
  · rintro ⟨i, h1, h2, rfl⟩; exact ⟨i, ⟨h1, h2⟩, rfl⟩
theorem critR_asc (l : List UInt8) (N : Nat) : (critR l N).Pairwise (· < ·) := by
  unfold critR
  refine List.pairwise_map.2 ?_
  refine ((List.pairwise_lt_range (n := N)).filter _).imp ?_
  intro a b h
  omega

/-- Of the critical places of a word with two letters or more; and of all others. -/
theorem crit_none (x : ByteArray) (h : (critsR x).2 ≠ 0 ∨ x.size < 2) : (critsR x).1 = [] := by
  by_cases hw : IsW x
  · rw [critsR_ok hw] at h ⊢
    have : x.size - 1 = 0 := by
      rcases h with h | h
      · exact absurd rfl h
      · omega
    show critR _ _ = []
    rw [this]
    rfl
  · rw [critsR_bad hw]
theorem crit_places (x : ByteArray) (h : (critsR x).2 = 0) (h2 : 2 ≤ x.size) : (periodsR x).2 = 0 ∧ x.size ≤ 60 ∧ ∃ p t c s, (periodsR x).1 = p :: t ∧ (critsR x).1 = c :: s ∧ 1 ≤ p ∧ p ≤ 60 ∧ c < max p 2 ∧ ∀ z ∈ (critsR x).1, (locR x z) = (p, 0) ∧ 0 ≤ z ∧ z ≤ 60 := by
  by_cases hw : IsW x
  · have hp : 0 < x.size := by omega
    obtain ⟨t, ht⟩ := pers_head (bl_ne hp)
    have hlp := lp_ok (bl_ne hp)
    have hl := hlp.2.1
    have hl0 := hlp.1
    have h60 := hw.size
    rw [bl_len] at ht hl
    obtain ⟨i, c1, c2, c3, c4⟩ := cft (l := bl x) (p := lp (bl x)) (by rw [bl_len]; exact h2) hlp
    rw [bl_len] at c3
    have hloc : loc (bl x) i = lp (bl x) := Nat.le_antisymm (loc_le_lp (bl_ne hp) i) (c4 _ (loc_pos _ _) (loc_ok _ _).2.1)
    have hmem : ((i : Int)) ∈ critR (bl x) (x.size - 1) := mem_critR.2 ⟨i - 1, by omega, by rw [show i - 1 + 1 = i by omega]; exact hloc, by omega⟩
    have hasc := critR_asc (bl x) (x.size - 1)
    rw [critsR_ok hw, periodsR_ok hw]
    refine ⟨rfl, h60, (lp (bl x) : Int), t, ?_⟩
    cases e : critR (bl x) (x.size - 1) with
    | nil => rw [e] at hmem; cases hmem
    | cons c s =>
      rw [e] at hmem hasc
      refine ⟨c, s, ht, rfl, by omega, by omega, ?_, ?_⟩
      · rcases List.mem_cons.1 hmem with h9 | h9
        · omega
        · have := (List.pairwise_cons.1 hasc).1 _ h9
          omega
      · intro z hz
        have hz' : z ∈ critR (bl x) (x.size - 1) := by rw [e]; exact hz
        obtain ⟨j, j1, j2, rfl⟩ := mem_critR.1 hz'
        have := locR_ok (i := j + 1) hw (by omega) (by omega)
        rw [j2] at this
        exact ⟨by rw [show (j : Int) + 1 = ((j + 1 : Nat) : Int) by omega]; exact this, by omega, by omega⟩
  · rw [critsR_bad hw] at h; cases h

end Go.Proofs.Ytinanajagkilaaa

/-! ### Periods -/
namespace Go.Proofs.Ytinanajagkilaaa
set_option linter.unusedVariables false
set_option linter.unusedSimpArgs false
open Go.RowKit

set_option maxRecDepth 100000 in
set_option maxHeartbeats 1000000 in
theorem impl_PeriodsOf (x : ByteArray) (w : World) (sx : x.size ≤ maxLen) :
    Calls Try.prog 47 #[.string x] w (RetI (periodsR x).1 (periodsR x).2 w) := by
  by_cases h : IsW x
  · rw [periodsR_ok h]
    have h1 := h.size
    have cb := impl_BordersOf x
    rw [bordersR_ok h] at cb
    have CB := Lib.hid cb
    clear h cb
    go_enter Try.func47, Try.ntmps47
    go_wp2_with fail
    refine (CB.out _ sx).mono ?_
    rintro e w1 ⟨v, rfl, o1, b1⟩
    have hlp := bordsR_len (bl x) x.size
    have hmem : ∀ z ∈ bordsR (bl x) x.size, 0 ≤ z ∧ z < x.size := fun z hz => bordsR_mem hz
    have hpe := pers_eq (bl x)
    rw [bl_len] at hpe
    have HPE := Lib.hid hpe
    clear hpe
    generalize bordsR (bl x) x.size = P at o1 hlp hmem HPE
    have HM := Lib.hid hmem
    clear hmem
    by_cases h0 : P = []
    · subst h0
      obtain ⟨a1, c1, rfl⟩ := o1.empty
      have HO := Lib.hid o1
      clear o1
      go_wp2_with fail
      refine wp_loop_rounds 1 ?_
      rw [rounds_succ]
      go_wp2_with fail
      refine (reverseI _ _ [] _ HO.out (by decide)).mono ?_
      rintro e w2 ⟨rfl, o2, g2⟩
      go_wp2
      go_ret2
      refine ⟨_, rfl, ?_, b1.grown g2 b1.size (fun k hk => (o2.lt k hk).1)⟩
      have h2 := HPE.out
      simp only [List.map_nil, List.reverse_nil] at h2
      rw [← h2]
      exact o2
    · have hn : 0 < P.length := List.length_pos_iff.2 h0
      obtain ⟨g, cp, rfl, hBg, hg, hc, hm, _, _⟩ := o1.row hn
      have O1 := Lib.hid o1
      clear o1 h0
      go_wp2_with fail
      go_loopw [18] (fun i wr => ∃ k : Nat, k ≤ P.length ∧ i = .int .i64 (k : Int) ∧ wr.ownsRow w.heap.size 2 1 (.slice (some ⟨g, 0, none⟩) P.length cp) P.length ((mapK (fun z => (x.size : Int) - z) P k).map (Value.int .i64)) ∧ w1.grownBy wr (some g))
        (fun i _ => P.length - (intOf i).toNat)
      case atStart => exact ⟨0, Nat.zero_le _, rfl, by rw [mapK_zero]; exact O1.out, grown_refl _ _⟩
      case round =>
        obtain ⟨k, hk, rfl, hown, hgr⟩ := hrel
        by_cases hp : k < P.length
        · have hmid := mapK_get (fun z => (x.size : Int) - z) P k hp
          have hst := hown.stored k (.int .i64 ((x.size : Int) - P[k]'hp))
          have hstep := mapK_step (fun z => (x.size : Int) - z) P k hp
          rw [hstep] at hst
          have hz := HM.out (P[k]'hp) (List.getElem_mem _)
          have k1 : wr.cell? ⟨g, k, none⟩ = some (.int .i64 (P[k]'hp)) := by
            rw [hown.cellAt k (by omega), List.getElem?_map, hmid]; rfl
          have f1 : wr.frozen? ⟨g, k, none⟩ = false := hown.frozenAt k
          have HS := Lib.hid hst
          have hkc : k < cp := by omega
          generalize P[k]'hp = z at *
          clear hst hstep hmid hown
          go_wp2
          go_roundw
          case rel => exact ⟨k + 1, by omega, by go_num, HS.out.1, grown_set hgr _ _⟩
          case measure => simp [intOf] <;> omega
        · have hke : k = P.length := by omega
          have ho2 : OwnI wr w.heap.size (.slice (some ⟨g, 0, none⟩) P.length cp) (P.map fun z => (x.size : Int) - z) := by
            rw [hke, mapK_end] at hown
            unfold OwnI
            rw [List.length_map]
            exact hown
          have HO := Lib.hid ho2
          clear ho2 hown
          go_wp2_with fail
          refine (reverseI _ _ _ _ HO.out (by rw [List.length_map]; omega)).mono ?_
          rintro e w2 ⟨rfl, o2, g2⟩
          go_wp2
          go_ret2
          refine ⟨_, rfl, ?_, (b1.grown hgr b1.size (fun q hq => by cases hq; exact hBg)).grown g2 (Nat.le_trans b1.size hgr.size) (fun q hq => (o2.lt q hq).1)⟩
          rw [← HPE.out]
          exact o2
  · rw [periodsR_bad h]
    have cb := impl_BordersOf x
    rw [bordersR_bad h] at cb
    have CB := Lib.hid cb
    clear h cb
    go_enter Try.func47, Try.ntmps47
    go_wp2_with fail
    refine (CB.out _ sx).mono ?_
    rintro e w1 ⟨v, rfl, o1, b1⟩
    go_wp2_with fail
    go_ret2
    exact ⟨_, rfl, OwnI.nil _ _, b1⟩

end Go.Proofs.Ytinanajagkilaaa

/-! ### DrawCrit -/
namespace Go.Proofs.Ytinanajagkilaaa
set_option linter.unusedVariables false
set_option linter.unusedSimpArgs false
open Go.RowKit

set_option maxRecDepth 100000 in
set_option maxHeartbeats 4000000 in
theorem DrawCriticalPlaces_any (a : Option Addr) (len cap : Nat) (zs : List Int) (w : World) (h : IsRow .u8 w a len cap zs) (hl : len ≤ 1048576) :
    Calls Try.prog 37 #[.slice a len cap] w (OneT w) := by
  have CF := Lib.hid (l01From_any a len cap zs w h hl)
  clear h
  go_enter Try.func37, Try.ntmps37
  go_wp2_with fail
  refine CF.out.mono ?_
  rintro e W0 ⟨rfl, s0, hB0⟩
  have HB0 := s0.ge
  have hl0 := s0.lt
  clear CF
  have CN := Lib.hid (l01Spoil_any w W0 w.heap.size s0 hB0)
  go_wp2_with fail
  refine CN.out.mono ?_
  rintro e W1 ⟨x, rfl, hx, s1, g1⟩
  have hB1 := below_src hB0 HB0 g1
  go_wp2_with fail
  go_ret
  exact ⟨x, rfl, by omega, hB1⟩

set_option maxRecDepth 100000 in
set_option maxHeartbeats 4000000 in
theorem DrawLongestUnbordered_any (a : Option Addr) (len cap : Nat) (zs : List Int) (w : World) (h : IsRow .u8 w a len cap zs) (hl : len ≤ 1048576) :
    Calls Try.prog 43 #[.slice a len cap] w (OneT w) := by
  have CF := Lib.hid (l01From_any a len cap zs w h hl)
  clear h
  go_enter Try.func43, Try.ntmps43
  go_wp2_with fail
  refine CF.out.mono ?_
  rintro e W0 ⟨rfl, s0, hB0⟩
  have HB0 := s0.ge
  have hl0 := s0.lt
  clear CF
  have CN := Lib.hid (l01Spoil_any w W0 w.heap.size s0 hB0)
  go_wp2_with fail
  refine CN.out.mono ?_
  rintro e W1 ⟨x, rfl, hx, s1, g1⟩
  have hB1 := below_src hB0 HB0 g1
  go_wp2_with fail
  go_ret
  exact ⟨x, rfl, by omega, hB1⟩

set_option maxRecDepth 100000 in
set_option maxHeartbeats 4000000 in
theorem DrawLyndonParts_any (a : Option Addr) (len cap : Nat) (zs : List Int) (w : World) (h : IsRow .u8 w a len cap zs) (hl : len ≤ 1048576) :
    Calls Try.prog 54 #[.slice a len cap] w (OneT w) := by
  have CF := Lib.hid (l01From_any a len cap zs w h hl)
  clear h
  go_enter Try.func54, Try.ntmps54
  go_wp2_with fail
  refine CF.out.mono ?_
  rintro e W0 ⟨rfl, s0, hB0⟩
  have HB0 := s0.ge
  have hl0 := s0.lt
  clear CF
  have CN := Lib.hid (l01Spoil_any w W0 w.heap.size s0 hB0)
  go_wp2_with fail
  refine CN.out.mono ?_
  rintro e W1 ⟨x, rfl, hx, s1, g1⟩
  have hB1 := below_src hB0 HB0 g1
  go_wp2_with fail
  go_ret
  exact ⟨x, rfl, by omega, hB1⟩

set_option maxRecDepth 100000 in
set_option maxHeartbeats 4000000 in
theorem DrawLocalPeriod_any (a : Option Addr) (len cap : Nat) (zs : List Int) (w : World) (h : IsRow .u8 w a len cap zs) (hl : len ≤ 1048576) :
    Calls Try.prog 40 #[.slice a len cap] w (TextI w) := by
  have CF := Lib.hid (l01From_any a len cap zs w h hl)
  clear h
  go_enter Try.func40, Try.ntmps40
  go_wp2_with fail
  refine CF.out.mono ?_
  rintro e W0 ⟨rfl, s0, hB0⟩
  have HB0 := s0.ge
  have hl0 := s0.lt
  clear CF
  have CN := Lib.hid (l01Spoil_any w W0 w.heap.size s0 hB0)
  go_wp2_with fail
  refine CN.out.mono ?_
  rintro e W1 ⟨x, rfl, hx, s1, g1⟩
  have hB1 := below_src hB0 HB0 g1
  have CM := Lib.hid (fun q (q0 : 0 ≤ q) (q1 : q ≤ 1000000000) => l01Near_any w W1 w.heap.size q s1 hB1 q0 q1)
  clear s1 CN s0 hB0 g1
  go_wp2_with fail
  refine (CM.out _ (by omega) (by omega)).mono ?_
  rintro e W2 ⟨k, rfl, k0, k1, s2, g2⟩
  have hB2 := below_src hB1 HB0 g2
  clear CM
  go_wp2_with fail
  go_ret2
  exact ⟨x, k, rfl, by omega, wf_near k0 k1, hB2⟩

set_option maxRecDepth 100000 in
set_option maxHeartbeats 4000000 in
theorem DrawDoubleWord_any (a : Option Addr) (len cap : Nat) (zs : List Int) (w : World) (h : IsRow .u8 w a len cap zs) (hl : len ≤ 1048576) :
    Calls Try.prog 48 #[.slice a len cap] w (TwoI w) := by
  have CF := Lib.hid (l01From_any a len cap zs w h hl)
  clear h
  go_enter Try.func48, Try.ntmps48
  go_wp2_with fail
  refine CF.out.mono ?_
  rintro e W0 ⟨rfl, s0, hB0⟩
  have HB0 := s0.ge
  have hl0 := s0.lt
  clear CF
  go_wp2_with fail
  refine (l01Pick_any w _ w.heap.size _ [9, 12, 30, 60] (s0.below (Below.new _ _)) (hB0.alloc hB0.size _) (by simp) (by omega) (by decide) (by decide) (cells_new_ints W0 [9, 12, 30, 60] _)).mono ?_
  rintro e W1 ⟨z1, rfl, hz, s1, g1⟩
  have hz1 : 9 ≤ z1 ∧ z1 ≤ 1000000 := by simp at hz; omega
  have hB1 := below_src (hB0.alloc hB0.size _) HB0 g1
  clear hz
  have CN1 := Lib.hid (l01Near_any w W1 w.heap.size z1 s1 hB1 (by omega) (by omega))
  go_wp2_with fail
  refine CN1.out.mono ?_
  rintro e W2 ⟨k1, rfl, a1, b1, s2, g2⟩
  have hB2 := below_src hB1 HB0 g2
  have hl2 := s2.lt
  go_wp2_with fail
  refine (l01Pick_any w _ w.heap.size _ [9, 12, 30] (s2.below (Below.new _ _)) (hB2.alloc hB2.size _) (by simp) (by omega) (by decide) (by decide) (cells_new_ints W2 [9, 12, 30] _)).mono ?_
  rintro e W3 ⟨z2, rfl, hz, s3, g3⟩
  have hz2 : 9 ≤ z2 ∧ z2 ≤ 1000000 := by simp at hz; omega
  have hB3 := below_src (hB2.alloc hB2.size _) HB0 g3
  clear hz
  have CN2 := Lib.hid (l01Near_any w W3 w.heap.size z2 s3 hB3 (by omega) (by omega))
  go_wp2_with fail
  refine CN2.out.mono ?_
  rintro e W4 ⟨k2, rfl, a2, b2, s4, g4⟩
  have hB4 := below_src hB3 HB0 g4
  have hl4 := s4.lt
  go_wp2_with fail
  go_ret2
  exact ⟨k1, k2, rfl, wf_near a1 b1, wf_near a2 b2, hB4⟩

set_option maxRecDepth 100000 in
set_option maxHeartbeats 4000000 in
theorem DrawDoubleLength_any (a : Option Addr) (len cap : Nat) (zs : List Int) (w : World) (h : IsRow .u8 w a len cap zs) (hl : len ≤ 1048576) :
    Calls Try.prog 51 #[.slice a len cap] w (TwoI w) := by
  have CF := Lib.hid (l01From_any a len cap zs w h hl)
  clear h
  go_enter Try.func51, Try.ntmps51
  go_wp2_with fail
  refine CF.out.mono ?_
  rintro e W0 ⟨rfl, s0, hB0⟩
  have HB0 := s0.ge
  have hl0 := s0.lt
  clear CF
  go_wp2_with fail
  refine (l01Pick_any w _ w.heap.size _ [12, 60, 1000000] (s0.below (Below.new _ _)) (hB0.alloc hB0.size _) (by simp) (by omega) (by decide) (by decide) (cells_new_ints W0 [12, 60, 1000000] _)).mono ?_
  rintro e W1 ⟨z1, rfl, hz, s1, g1⟩
  have hz1 : 9 ≤ z1 ∧ z1 ≤ 1000000 := by simp at hz; omega
  have hB1 := below_src (hB0.alloc hB0.size _) HB0 g1
  clear hz
  have CN1 := Lib.hid (l01Near_any w W1 w.heap.size z1 s1 hB1 (by omega) (by omega))
  go_wp2_with fail
  refine CN1.out.mono ?_
  rintro e W2 ⟨k1, rfl, a1, b1, s2, g2⟩
  have hB2 := below_src hB1 HB0 g2
  have hl2 := s2.lt
  go_wp2_with fail
  refine (l01Pick_any w _ w.heap.size _ [12, 60, 1000000] (s2.below (Below.new _ _)) (hB2.alloc hB2.size _) (by simp) (by omega) (by decide) (by decide) (cells_new_ints W2 [12, 60, 1000000] _)).mono ?_
  rintro e W3 ⟨z2, rfl, hz, s3, g3⟩
  have hz2 : 9 ≤ z2 ∧ z2 ≤ 1000000 := by simp at hz; omega
  have hB3 := below_src (hB2.alloc hB2.size _) HB0 g3
  clear hz
  have CN2 := Lib.hid (l01Near_any w W3 w.heap.size z2 s3 hB3 (by omega) (by omega))
  go_wp2_with fail
  refine CN2.out.mono ?_
  rintro e W4 ⟨k2, rfl, a2, b2, s4, g4⟩
  have hB4 := below_src hB3 HB0 g4
  have hl4 := s4.lt
  go_wp2_with fail
  go_ret2
  exact ⟨k1, k2, rfl, wf_near a1 b1, wf_near a2 b2, hB4⟩

end Go.Proofs.Ytinanajagkilaaa

/-! ### LuS -/
namespace Go.Proofs.Ytinanajagkilaaa
set_option linter.unusedVariables false
set_option linter.unusedSimpArgs false
open Go.RowKit

set_option maxRecDepth 100000 in
set_option maxHeartbeats 2000000 in
theorem spec_LongestUnbordered (x : ByteArray) (w : World) (sx : x.size ≤ maxLen) :
    Calls Try.prog 45 #[.string x] w fun e w' => e = .returned (.tuple #[.string (luR x).1, .int .i64 (luR x).2]) ∧ Below w.heap.size w w' := by
  by_cases h : IsW x
  · by_cases h0 : x.size = 0
    · rw [luR_nil h h0]
      have H := Lib.hid h
      clear h
      go_enter Try.func45, Try.ntmps45
      go_wp2_with fail
      refine (l02Given_nil x _ H.out h0).mono ?_
      rintro e w1 ⟨rfl, b1⟩
      go_wp2_with fail
      go_ret2
      exact ⟨rfl, b1⟩
    · rw [luR_ok h h0]
      have h1 := h.size
      have H := Lib.hid h
      clear h
      obtain ⟨R, hR⟩ : ∃ R, luF x x.size = R := ⟨_, rfl⟩
      rw [hR]
      have HR0 := Lib.hid hR
      clear hR
      go_enter Try.func45, Try.ntmps45
      go_wp2_with fail
      refine (l02Given_ok x _ H.out h0).mono ?_
      rintro e w1 ⟨rfl, b1⟩
      go_wp2_with fail
      go_loopg [5] x.size (fun g s5 wr => ∃ n : Nat, n ≤ g ∧ n ≤ x.size ∧ s5 = .int .i64 (n : Int) ∧ Below w.heap.size w wr ∧ Hid (luF x n = R))
      case atStart => exact ⟨x.size, Nat.le_refl _, Nat.le_refl _, rfl, b1, HR0⟩
      case round =>
        obtain ⟨n, hn, hnx, rfl, hB, HR⟩ := hrel
        clear b1 HR0
        by_cases hp : 1 < n
        · obtain ⟨g, rfl⟩ : ∃ g, gk = g + 1 := ⟨gk - 1, by omega⟩
          have hpi : (1 : Int) < (n : Int) := by omega
          have hpd : decide ((1 : Int) < (n : Int)) = true := decide_eq_true hpi
          go_wp2
          try rw [hpd]
          clear hpd
          go_loopg [6] (x.size + 1 - n) (fun g2 s6 wr => ∃ i : Nat, i + g2 = x.size + 1 - n ∧ s6 = .int .i64 (i : Int) ∧ Below w.heap.size w wr ∧ Hid (luI x n 0 (x.size + 1 - n) = luI x n i g2))
          case atStart => exact ⟨0, by omega, rfl, hB, Lib.hid rfl⟩
          case round =>
            clear hB
            obtain ⟨i, hi, rfl, hB, HI⟩ := hrel
            by_cases hp2 : i + n ≤ x.size
            · obtain ⟨g2, rfl⟩ : ∃ g2, gk = g2 + 1 := ⟨gk - 1, by omega⟩
              have hsl := fun W => slice_mid x i n hp2 W
              have hle : (i : Int) + (n : Int) ≤ (x.size : Int) := by omega
              have z1 : (x.extract i (i + n)).size = n := by simp; omega
              by_cases he : lp (bl (x.extract i (i + n))) = n
              · have HV : Hid (R = x.extract i (i + n)) := Lib.hid (by
                  rw [← HR.out]
                  exact luF_hit (by omega) (by rw [HI.out, luI_hit he]))
                have CP := Lib.hid (fun w => l02Periods_first (x.extract i (i + n)) w (by omega) (by omega))
                generalize x.extract i (i + n) = y at *
                rw [he] at CP
                go_wp2_with fail
                refine (CP.out _).mono ?_
                rintro e w2 ⟨gg, nn, cp, rfl, hnn, hcc, k1, b2⟩
                have B := hB.then b2
                go_wp2_with fail
                go_ret2
                rw [HV.out]
                exact ⟨rfl, B⟩
              · have HN : Hid (luI x n 0 (x.size + 1 - n) = luI x n (i + 1) g2) := Lib.hid (by rw [HI.out, luI_miss he])
                have CP := Lib.hid (fun w => l02Periods_first (x.extract i (i + n)) w (by omega) (by omega))
                generalize x.extract i (i + n) = y at *
                have he2 : ¬ ((lp (bl y) : Nat) : Int) = (n : Int) := by omega
                generalize lp (bl y) = q at *
                go_wp2_with fail
                refine (CP.out _).mono ?_
                rintro e w2 ⟨gg, nn, cp, rfl, hnn, hcc, k1, b2⟩
                have B := hB.then b2
                go_wp2_with fail
                go_roundg g2
                case measure => omega
                case rel => exact ⟨i + 1, by omega, by go_num, B, HN⟩
            · have hle : ¬ (i : Int) + (n : Int) ≤ (x.size : Int) := by omega
              obtain rfl : gk = 0 := by omega
              have HN : Hid (luF x (n - 1) = R) := Lib.hid (by rw [← HR.out]; exact (luF_miss (by omega) (by rw [HI.out, luI_end])).symm)
              go_wp2
              go_roundg g
              case measure => omega
              case rel => exact ⟨n - 1, by omega, by omega, by go_num, hB, HN⟩
        · have hlow := luF_low x (m := n) (by omega)
          have hsl := fun W => slice_to x 1 1 rfl (by omega) W
          have HV : Hid (R = x.extract 0 1) := Lib.hid (by rw [← HR.out]; exact hlow)
          clear hlow
          generalize x.extract 0 1 = y at *
          go_wp2
          go_ret2
          rw [HV.out]
          exact ⟨rfl, hB⟩
  · rw [luR_bad h]
    have H := Lib.hid h
    clear h
    go_enter Try.func45, Try.ntmps45
    go_wp2_with fail
    refine (l02Given_bad x _ sx H.out).mono ?_
    rintro e w1 ⟨rfl, b1⟩
    go_wp2_with fail
    go_ret2
    exact ⟨rfl, b1⟩

end Go.Proofs.Ytinanajagkilaaa

/-! ### Lu -/
namespace Go.Proofs.Ytinanajagkilaaa
set_option linter.unusedVariables false
set_option linter.unusedSimpArgs false
open Go.RowKit Go.Shelf
attribute [local go_sem] Oper.semAt_some

theorem boxes2 {w w1 : World} (b : Below ((w.alloc (.cells #[.string ⟨#[]⟩] 9)).alloc (.cells #[.int .i64 0] 2)).heap.size ((w.alloc (.cells #[.string ⟨#[]⟩] 9)).alloc (.cells #[.int .i64 0] 2)) w1) :
    Boxed w1 w.heap.size 9 (.string ⟨#[]⟩) ∧ Boxed w1 (w.heap.size + 1) 2 (.int .i64 0) ∧ Below w.heap.size w w1 ∧ w.heap.size + 2 ≤ w1.heap.size := by
  have hs : ((w.alloc (.cells #[.string ⟨#[]⟩] 9)).alloc (.cells #[.int .i64 0] 2)).heap.size = w.heap.size + 2 := by simp
  have p1 : Boxed ((w.alloc (.cells #[.string ⟨#[]⟩] 9)).alloc (.cells #[.int .i64 0] 2)) (w.heap.size + 1) 2 (.int .i64 0) := by
    have := Boxed.new (w.alloc (.cells #[.string ⟨#[]⟩] 9)) 2 (.int .i64 0)
    rwa [World.size_alloc] at this
  exact ⟨(b.block _ (by omega)).trans ((Boxed.new w _ _).alloc _), (b.block _ (by omega)).trans p1, ((Below.new _ _).alloc (by simp) _).trans (b.mono (by omega)), by have := b.size; omega⟩
/-- All factors of a length that are looked at have shorter periods, or one is the first that has not. -/
theorem luI_none {x : ByteArray} {m : Nat} : ∀ (f i : Nat), (∀ k, i ≤ k → k < i + f → ¬ lp (bl (x.extract k (k + m))) = m) → luI x m i f = none
  | 0, _, _ => rfl
  | f + 1, i, h => by
    rw [luI_miss (h i (Nat.le_refl _) (by omega))]
    exact luI_none f (i + 1) fun k h1 h2 => h k (by omega) (by omega)
theorem luI_some {x : ByteArray} {m j : Nat} (hj : lp (bl (x.extract j (j + m))) = m) : ∀ (f i : Nat), i ≤ j → j < i + f → (∀ k, i ≤ k → k < j → ¬ lp (bl (x.extract k (k + m))) = m) → luI x m i f = some j
  | 0, i, h1, h2, _ => by omega
  | f + 1, i, h1, h2, h => by
    by_cases e : i = j
    · subst e; exact luI_hit hj
    · rw [luI_miss (h i (Nat.le_refl _) (by omega))]
      exact luI_some hj f (i + 1) (by omega) (by omega) fun k h3 h4 => h k (by omega) h4

/-- How the search stands at the head of a round. -/
def LuAt (x R : ByteArray) (w : World) (gk : Nat) (a : Act) (W : World) : Prop :=
  ∃ (u1 u5 u6 u7 u8 u9 u10 u11 u12 u13 u14 u15 u16 u17 u18 u19 u20 u21 u22 u23 u24 u25 u26 u27 u28 u29 u30 u31 u32 : Value) (n B4 : Nat) (Ds : List Nat), a = { tmps := #[.string x, u1, .pointer (some ⟨w.heap.size, 0, none⟩), .pointer (some ⟨w.heap.size + 1, 0, none⟩), .pointer (some ⟨B4, 0, none⟩), u5, u6, u7, u8, u9, u10, u11, u12, u13, u14, u15, u16, u17, u18, u19, u20, u21, u22, u23, u24, u25, u26, u27, u28, u29, u30, u31, u32], defers := Ds.map mkD } ∧ n ≤ gk ∧ n ≤ x.size ∧
    Boxed W w.heap.size 9 (.string ⟨#[]⟩) ∧ Boxed W (w.heap.size + 1) 2 (.int .i64 0) ∧ Boxed W B4 2 (.int .i64 (n : Int)) ∧ w.heap.size + 2 ≤ B4 ∧ Below w.heap.size w W ∧ MarksAt W w.heap.size Ds ∧ Hid (luF x n = R)

theorem lu_step (w : World) (R : ByteArray) : ∀ (D : Nat) (W : World), w.heap.size ≤ D → (Boxed W w.heap.size 9 (.string R) ∧ Boxed W (w.heap.size + 1) 2 (.int .i64 0) ∧ Below w.heap.size w W) → W.heap[D]? = some (.deferred (some [])) →
    (Boxed (W.putObj D (.deferred none)) w.heap.size 9 (.string R) ∧ Boxed (W.putObj D (.deferred none)) (w.heap.size + 1) 2 (.int .i64 0) ∧ Below w.heap.size w (W.putObj D (.deferred none))) := fun D W hD hs hK => by
  have hne : ∀ {b : Nat} {t : TypeId} {v : Value}, Boxed W b t v → some b ≠ some D := fun hb e => by
    have e1 := Option.some.inj e
    subst e1
    rw [show W.heap[_]? = _ from hb] at hK
    cases hK
  exact ⟨hs.1.kept (grownBy_putObj' W D _) (hne hs.1), hs.2.1.kept (grownBy_putObj' W D _) (hne hs.2.1), hs.2.2.trans (belowK_b (w := w) (Nat.le_refl _) W D _ _ hD hK rfl rfl)⟩

set_option maxRecDepth 100000 in
set_option maxHeartbeats 4000000 in
theorem impl_Lu_ok (x R : ByteArray) (w : World) (h : IsW x) (h0 : ¬ x.size = 0) (hR : luF x x.size = R) :
    CallsIn Fence.wide 4 Try.prog 44 #[.string x] w fun e w' => e = .returned (.tuple #[.string R, .int .i64 0]) ∧ Below w.heap.size w w' := by
  have hx := h.size
  have hq := teq_not_nil h0
  have H := Lib.hid h
  have HR0 := Lib.hid hR
  clear h hR
  refine callsIn_of_wp_marks Try.func44 rfl trivial ?_ rfl
  simp only [Try.ntmps44, List.size_toArray, List.length_cons, List.length_nil, Nat.reduceAdd, Nat.reduceSub, Array.replicate_succ, Array.replicate_zero, List.push_toArray, List.append_toArray, List.nil_append, List.cons_append]
  gi_wp2_with (refine ⟨trivial, ?_⟩; gi_at_call 86; refine (callsIn_wide.2 (isWord_yes x _ H.out)).mono ?_; rintro e w1 ⟨rfl, b1⟩; obtain ⟨v1, v2, hB, hz⟩ := boxes2 b1)
  refine wpIn_loop_ghost_k (fun n a W => LuAt x R w n a W) x.size ⟨_, _, _, _, _, _, _, _, _, _, _, _, _, _, _, _, _, _, _, _, _, _, _, _, _, _, _, _, _, x.size, w1.heap.size, [], rfl, Nat.le_refl _, Nat.le_refl _, v1.alloc _, v2.alloc _, Boxed.new w1 _ _, by omega, hB.alloc (by omega) _, MarksAt.nil _ _, HR0⟩ ?_
  clear v1 v2 hB HR0 hz b1
  intro gk a W hI J K hJ hK
  obtain ⟨u1, u5, u6, u7, u8, u9, u10, u11, u12, u13, u14, u15, u16, u17, u18, u19, u20, u21, u22, u23, u24, u25, u26, u27, u28, u29, u30, u31, u32, n, B4, Ds, rfl, hn, hnx, v1, v2, v4, hB4, hB, hM, HR⟩ := hI
  have c4 := v4.cell
  have hbz := hB.size
  have l1 := v1.lt
  have l2 := v2.lt
  have l4 := v4.lt
  by_cases hp : 1 < n
  · obtain ⟨g, rfl⟩ : ∃ g, gk = g + 1 := ⟨gk - 1, by omega⟩
    have hpi : (1 : Int) < (n : Int) := by omega
    gi_wp2_with (refine ⟨trivial, ?_⟩; gi_at_call 98; refine (factorsIn_in Fence.wide _ trivial rfl _ _ _).mono ?_; rintro e w2 ⟨rfl, rfl⟩)
    have q2 : Boxed ((W.alloc (.cells #[.string x] 9)).alloc (.cells #[.int .i64 (n : Int)] 2)) W.heap.size 9 (.string x) := (Boxed.new W _ _).alloc _
    have q1 : Boxed ((W.alloc (.cells #[.string x] 9)).alloc (.cells #[.int .i64 (n : Int)] 2)) (W.heap.size + 1) 2 (.int .i64 (n : Int)) := by
      have := Boxed.new (W.alloc (.cells #[.string x] 9)) 2 (.int .i64 (n : Int))
      rwa [World.size_alloc] at this
    have d1 := (v1.alloc (.cells #[.string x] 9)).alloc (.cells #[.int .i64 (n : Int)] 2)
    have d2 := (v2.alloc (.cells #[.string x] 9)).alloc (.cells #[.int .i64 (n : Int)] 2)
    have d4 := (v4.alloc (.cells #[.string x] 9)).alloc (.cells #[.int .i64 (n : Int)] 2)
    have dB := (hB.alloc hbz (.cells #[.string x] 9)).alloc (by simp; omega) (.cells #[.int .i64 (n : Int)] 2)
    have hs0 : ((W.alloc (.cells #[.string x] 9)).alloc (.cells #[.int .i64 (n : Int)] 2)).heap.size = W.heap.size + 2 := by simp
    have dM : MarksAt ((W.alloc (.cells #[.string x] 9)).alloc (.cells #[.int .i64 (n : Int)] 2)) w.heap.size Ds := hM.keep fun b o hb _ => by
      have hlt := (Array.getElem?_eq_some_iff.1 hb).1
      rw [Below.heap_alloc _ _ b (by simp; omega), Below.heap_alloc _ _ b hlt]
      exact hb
    have hMl := hM.lt
    generalize hW0 : (W.alloc (.cells #[.string x] 9)).alloc (.cells #[.int .i64 (n : Int)] 2) = W0 at q1 q2 d1 d2 d4 dB hs0 dM ⊢
    clear hW0 v1 v2 v4 hB hM c4
    refine wpIn_rangeFunc_ownG rfl (by decide) (gf := 144) (lb := #[.pointer (some ⟨W.heap.size + 1, 0, none⟩), .pointer (some ⟨W.heap.size, 0, none⟩)]) rfl trivial (enters_of Try.func144 (by kernel_rfl) rfl)
      (factorsF_stops Fence.wide 3 trivial rfl (by decide) (W.heap.size + 1) W.heap.size w.heap.size x n hx (by omega) W0 q1 q2) kpF_t (kpF_b (by omega) (by omega) (by omega)) (Below.refl _ _) (fun _ => rfl)
      (fun pre W' => Boxed W' w.heap.size 9 (.string ⟨#[]⟩) ∧ Boxed W' (w.heap.size + 1) 2 (.int .i64 0) ∧ Boxed W' B4 2 (.int .i64 (n : Int)) ∧ (Boxed W' (W.heap.size + 1) 2 (.int .i64 (n : Int)) ∧ Boxed W' W.heap.size 9 (.string x)) ∧ Below w.heap.size w W' ∧ MarksAt W' w.heap.size Ds ∧ Hid (∀ k ∈ pre, ¬ lp (bl (x.extract k.val (k.val + n))) = n))
      (fun c pre W' => c = .ret ∧ ∃ s : ByteArray, Boxed W' w.heap.size 9 (.string s) ∧ Boxed W' (w.heap.size + 1) 2 (.int .i64 0) ∧ Below w.heap.size w W' ∧ MarksAt W' w.heap.size Ds ∧ Hid (∃ pre' i, pre = pre' ++ [i] ∧ (∀ k ∈ pre', ¬ lp (bl (x.extract k.val (k.val + n))) = n) ∧ lp (bl (x.extract i.val (i.val + n))) = n ∧ s = x.extract i.val (i.val + n)))
      (fun s A B row hs hg hr => by
        obtain ⟨h1, h2, h4, ⟨h5, h6⟩, h7, h8, h9⟩ := hs
        have hne : ∀ b, b < W0.heap.size → some b ≠ row := fun b hb e => by have := (hr _ e.symm).1; omega
        exact ⟨h1.kept hg (hne _ (by omega)), h2.kept hg (hne _ (by omega)), h4.kept hg (hne _ (by omega)), ⟨h5.kept hg (hne _ (by omega)), h6.kept hg (hne _ (by omega))⟩, h7.grown hg (by have := h7.size; omega) (fun k e => by have := (hr _ e).1; omega),
          ⟨h8.1, fun D hD => ⟨(h8.2 D hD).1, (hg.block D (h8.lt D hD) (hne D (by have := hMl D hD; omega))).trans (h8.2 D hD).2⟩⟩, h9⟩)
      (fun c s A B row hs hg hr => by
        obtain ⟨hc, s, h1, h2, h7, h8, h9⟩ := hs
        have hne : ∀ b, b < W0.heap.size → some b ≠ row := fun b hb e => by have := (hr _ e.symm).1; omega
        exact ⟨hc, s, h1.kept hg (hne _ (by omega)), h2.kept hg (hne _ (by omega)), h7.grown hg (by have := h7.size; omega) (fun k e => by have := (hr _ e).1; omega),
          ⟨h8.1, fun D hD => ⟨(h8.2 D hD).1, (hg.block D (h8.lt D hD) (hne D (by have := hMl D hD; omega))).trans (h8.2 D hD).2⟩⟩, h9⟩)
      ⟨d1, d2, d4, ⟨q1, q2⟩, dB, dM, Lib.hid (fun k hk => by cases hk)⟩
      (fun i => { tmps := #[.string x, u1, .pointer (some ⟨w.heap.size, 0, none⟩), .pointer (some ⟨w.heap.size + 1, 0, none⟩), .pointer (some ⟨B4, 0, none⟩), u5, .string (x.extract i.val (i.val + n)), u7, u8, u9, u10, u11, u12, u13, .int .i64 (n : Int), .bool true, u16, u17, .string x, .int .i64 (n : Int), .func (.func 144) #[] #[.pointer (some ⟨W.heap.size + 1, 0, none⟩), .pointer (some ⟨W.heap.size, 0, none⟩)], .int .i64 (i.val : Int), .string (x.extract i.val (i.val + n)), u23, u24, u25, u26, u27, u28, u29, u30, u31, u32], defers := [] }) ?assign ?body ?done ?stop
    case assign =>
      intro l i W K hK
      gi_wp2
      exact hK
    case body =>
      rintro l pre i W' ⟨h1, h2, h4, ⟨h5, h6⟩, h7, h8, h9⟩ hlt
      have c4 := h4.cell
      have c1 := h1.cell
      have c2 := h2.cell
      have f1 := h1.frozen
      have f2 := h2.frozen
      have m1 := h1.lt
      have m2 := h2.lt
      have m4 := h4.lt
      have m5 := h5.lt
      have m6 := h6.lt
      have hmo : Try.prog.follows .mixedOrders = true := by kernel_rfl
      have hin : i.val + n ≤ x.size := by have := i.isLt; omega
      have z1 : (x.extract i.val (i.val + n)).size = n := by simp; omega
      have CP := Lib.hid fun w => leastPeriod_any (x.extract i.val (i.val + n)) w (by omega) (by omega)
      by_cases he : lp (bl (x.extract i.val (i.val + n))) = n
      · have HX : Hid (∃ pre' i', pre ++ [i] = pre' ++ [i'] ∧ (∀ k ∈ pre', ¬ lp (bl (x.extract k.val (k.val + n))) = n) ∧ lp (bl (x.extract i'.val (i'.val + n))) = n ∧ x.extract i.val (i.val + n) = x.extract i'.val (i'.val + n)) := Lib.hid ⟨pre, i, rfl, h9.out, he, rfl⟩
        rw [he] at CP
        have ze : (x.extract i.val (i.val + n)).size ≤ 60 := by omega
        have hbq : ((n : Int) == (n : Int)) = true := by rw [beq_iff_eq]
        clear he z1
        generalize x.extract i.val (i.val + n) = y at *
        gi_wp2
        gi_region_with_o (refine ⟨trivial, ?_⟩; gi_at_call 99; refine (CallsIn.inRound l (callsIn_wide.2 (CP.out _))).mono ?_; rintro e w2 ⟨rfl, b2⟩; have k4 : w2.cell? ⟨B4, 0, none⟩ = some (.int .i64 (n : Int)) := (b2.cell (p := ⟨B4, 0, none⟩) (by simpa using m4)).trans c4)
        all_goals
          have B2 : Below W'.heap.size W' w2 := ((Below.refl W'.heap.size W').drew).trans b2
          gi_wp2_with (refine ⟨trivial, ?_⟩; gi_at_call 97; refine (CallsIn.inRound l (callsIn_wide.2 (strings_Clone _ _ (by omega)))).mono ?_; rintro e w3 ⟨rfl, b3⟩; have B3 := B2.then b3; have v1 : Boxed w3 w.heap.size 9 (.string ⟨#[]⟩) := (B3.block _ m1).trans h1; have v2 : Boxed w3 (w.heap.size + 1) 2 (.int .i64 0) := (B3.block _ m2).trans h2; have e1 := v1.cell; have e2 := v2.cell; have g1 := v1.frozen; have g2 := v2.frozen)
          obtain ⟨t1, t2, t3, t4, t5⟩ := two_boxes (x := .string y) (x' := .int .i64 0) v1 v2 (h7.then B3) (Nat.le_refl _)
          have hM3 := h8.old (W' := w3) fun b hb => B3.block b hb
          exact ⟨KeepsFrom.trans ⟨B3.size, fun k o _ hk _ => (B3.block k (Array.getElem?_eq_some_iff.1 hk).1).trans hk⟩ (t4 _ (by omega)), rfl, y, t1, t2, t3, ⟨hM3.1, fun D hD => ⟨(hM3.2 D hD).1, (t5 D (hM3.lt D hD) (fun e => hM3.not_box v1 (e ▸ hD)) (fun e => hM3.not_box v2 (e ▸ hD))).trans (hM3.2 D hD).2⟩⟩, HX⟩
      · have HM2 : Hid (∀ k ∈ pre ++ [i], ¬ lp (bl (x.extract k.val (k.val + n))) = n) := Lib.hid fun k hk => by
          rcases List.mem_append.1 hk with h | h
          · exact h9.out k h
          · rw [List.mem_singleton.1 h]; exact he
        have hbq : (((lp (bl (x.extract i.val (i.val + n))) : Nat) : Int) == (n : Int)) = false := by rw [beq_eq_false_iff_ne]; omega
        clear he z1
        generalize x.extract i.val (i.val + n) = y at *
        generalize lp (bl y) = q at *
        gi_wp2
        gi_region_with_o (refine ⟨trivial, ?_⟩; gi_at_call 99; refine (CallsIn.inRound l (callsIn_wide.2 (CP.out _))).mono ?_; rintro e w2 ⟨rfl, b2⟩; have k4 : w2.cell? ⟨B4, 0, none⟩ = some (.int .i64 (n : Int)) := (b2.cell (p := ⟨B4, 0, none⟩) (by simpa using m4)).trans c4)
        all_goals gi_wp2
        all_goals
          have B2 : Below W'.heap.size W' w2 := ((Below.refl W'.heap.size W').drew).trans b2
          have kb : ∀ b, b < W'.heap.size → w2.heap[b]? = W'.heap[b]? := fun b hb => B2.block b hb
          have h7s := h7.size
          exact ⟨⟨B2.size, fun k o _ hk _ => (kb k (Array.getElem?_eq_some_iff.1 hk).1).trans hk⟩, ⟨B2.mono h7s, kb _ m5, kb _ m6⟩, (kb _ m1).trans h1, (kb _ m2).trans h2, (kb _ m4).trans h4, ⟨(kb _ m5).trans h5, (kb _ m6).trans h6⟩, h7.then B2, h8.old kb, HM2⟩
    case done =>
      rintro D ys W' hD hys ⟨h1, h2, h4, ⟨h5, h6⟩, h7, h8, h9⟩ hKD
      have c4 := h4.cell
      have m1 := h1.lt
      have m2 := h2.lt
      have m4 := h4.lt
      have h7s := h7.size
      have HN : Hid (luF x (n - 1) = R) := Lib.hid (by
        rw [← HR.out]
        refine (luF_miss (by omega) (luI_none _ _ fun k _ hk => ?_)).symm
        have hk2 : k < x.size + 1 - n := by omega
        exact h9.out ⟨k, hk2⟩ (by
          have h10 : k ∈ ys.map Fin.val := by rw [hys]; exact List.mem_range.2 hk2
          obtain ⟨q, hq1, hq2⟩ := List.mem_map.1 h10
          have : q = ⟨k, hk2⟩ := Fin.ext hq2
          rw [← this]; exact hq1))
      clear h9
      gi_wp2
      refine Handed.intro g (by omega) (hJ _ _ _ ⟨_, _, _, _, _, _, _, _, _, _, _, _, _, _, _, _, _, _, _, _, _, _, _, _, _, _, _, _, _, n - 1, W'.heap.size, D :: Ds, rfl, by omega, by omega, h1.alloc _, h2.alloc _, ?_, by omega, h7.alloc h7s _, ?_, HN⟩)
      · rw [show ((n - 1 : Nat) : Int) = (n : Int) - 1 by omega]
        exact Boxed.new W' _ _
      · have hDl := (Array.getElem?_eq_some_iff.1 hKD).1
        refine MarksAt.old (W := W') (MarksAt.cons h8 (by omega) hKD fun hm => ?_) fun b hb => Below.heap_alloc _ _ b hb
        have := hMl D hm
        omega
    case stop =>
      rintro D c pre W' hD ⟨j, hj, hpre⟩ ⟨rfl, s, h1, h2, h7, h8, h9⟩ hKD
      have hs : R = s := by
        obtain ⟨pre', i, rfl, hmiss, hhit, rfl⟩ := h9.out
        rw [← HR.out]
        rw [List.map_append] at hpre
        have hjl : j = pre'.length + 1 := by have := congrArg List.length hpre; simpa using this.symm
        subst hjl
        rw [List.range_succ] at hpre
        have hq := List.append_inj hpre (by simp)
        have hi : i.val = pre'.length := by have := hq.2; simpa using this
        refine luF_hit (by omega) (luI_some hhit _ _ (Nat.zero_le _) (by have := i.isLt; omega) fun k _ hk => ?_)
        have hk2 : k ∈ pre'.map Fin.val := by rw [hq.1]; exact List.mem_range.2 (by omega)
        obtain ⟨q, hq1, hq2⟩ := List.mem_map.1 hk2
        rw [← hq2]
        exact hmiss q hq1
      subst hs
      gi_wp2
      exact leaves_marks (fun W => Boxed W w.heap.size 9 (.string R) ∧ Boxed W (w.heap.size + 1) 2 (.int .i64 0) ∧ Below w.heap.size w W)
        (fun W hW => ⟨_, results_boxes Try.results44 rfl rfl Try.isAgg9 Try.isAgg2 hW.1.cell hW.2.1.cell, rfl, hW.2.2⟩)
        (D :: Ds) W' w.heap.size (MarksAt.cons h8 (by omega) hKD (fun hm => by have := hMl D hm; omega)) (lu_step w R) ⟨h1, h2, h7⟩
  · have HV : Hid (R = x.extract 0 1) := Lib.hid (by rw [← HR.out]; exact luF_low x (by omega))
    have hsl := fun W => slice_to x 1 1 rfl (by omega) W
    have z1 : (x.extract 0 1).size ≤ 60 := by simp; omega
    have hpi : ¬ (1 : Int) < (n : Int) := by omega
    generalize x.extract 0 1 = y at *
    gi_wp2_with (refine ⟨trivial, ?_⟩; gi_at_call 97; refine (callsIn_wide.2 (strings_Clone _ _ (by omega))).mono ?_; rintro e w3 ⟨rfl, b3⟩; have k1 : Boxed w3 w.heap.size 9 (.string ⟨#[]⟩) := (b3.block _ l1).trans v1; have k2 : Boxed w3 (w.heap.size + 1) 2 (.int .i64 0) := (b3.block _ l2).trans v2; have e1 := k1.cell; have e2 := k2.cell; have g1 := k1.frozen; have g2 := k2.frozen)
    obtain ⟨t1, t2, t3, t4, t5⟩ := two_boxes (x := .string y) (x' := .int .i64 0) k1 k2 (hB.then b3) (Nat.le_refl _)
    have hM3 := hM.old (W' := w3) fun b hb => b3.block b hb
    have hyr := HV.out
    subst hyr
    exact leaves_marks (fun W => Boxed W w.heap.size 9 (.string R) ∧ Boxed W (w.heap.size + 1) 2 (.int .i64 0) ∧ Below w.heap.size w W)
      (fun W hW => ⟨_, results_boxes Try.results44 rfl rfl Try.isAgg9 Try.isAgg2 hW.1.cell hW.2.1.cell, rfl, hW.2.2⟩)
      Ds _ w.heap.size ⟨hM3.1, fun D hD => ⟨(hM3.2 D hD).1, (t5 D (hM3.lt D hD) (fun e => hM3.not_box k1 (e ▸ hD)) (fun e => hM3.not_box k2 (e ▸ hD))).trans (hM3.2 D hD).2⟩⟩ (lu_step w R) ⟨t1, t2, t3⟩

set_option maxRecDepth 100000 in
theorem impl_LongestUnbordered (x : ByteArray) (w : World) (sx : x.size ≤ maxLen) :
    Calls Try.prog 44 #[.string x] w fun e w' => e = .returned (.tuple #[.string (luR x).1, .int .i64 (luR x).2]) ∧ Below w.heap.size w w' := by
  by_cases h : IsW x
  · by_cases h0 : x.size = 0
    · rw [luR_nil h h0]
      have hq := teq_nil h0
      have H := Lib.hid h
      clear h
      go_enter Try.func44, Try.ntmps44
      go_wp2_with (go_at_call 86; refine (isWord_yes x _ H.out).mono ?_; rintro e w1 ⟨rfl, b1⟩; obtain ⟨v1, v2, hB, hz⟩ := boxes2 b1; have c1 := v1.cell; have c2 := v2.cell; have f1 := v1.frozen; have f2 := v2.frozen)
      obtain ⟨t1, t2, t3, _, _⟩ := two_boxes (x := .string ⟨#[]⟩) (x' := .int .i64 5) v1 v2 hB (Nat.le_refl _)
      exact bodyPost_ret (results_boxes Try.results44 rfl rfl Try.isAgg9 Try.isAgg2 t1.cell t2.cell) rfl ⟨rfl, t3⟩
    · rw [luR_ok h h0]
      exact callsIn_wide.1 (impl_Lu_ok x _ w h h0 rfl)
  · rw [luR_bad h]
    have H := Lib.hid h
    clear h
    go_enter Try.func44, Try.ntmps44
    go_wp2_with (go_at_call 86; refine (isWord_not x _ sx H.out).mono ?_; rintro e w1 ⟨rfl, b1⟩; obtain ⟨v1, v2, hB, hz⟩ := boxes2 b1; have c1 := v1.cell; have c2 := v2.cell; have f1 := v1.frozen; have f2 := v2.frozen)
    obtain ⟨t1, t2, t3, _, _⟩ := two_boxes (x := .string ⟨#[]⟩) (x' := .int .i64 1) v1 v2 hB (Nat.le_refl _)
    exact bodyPost_ret (results_boxes Try.results44 rfl rfl Try.isAgg9 Try.isAgg2 t1.cell t2.cell) rfl ⟨rfl, t3⟩

end Go.Proofs.Ytinanajagkilaaa
