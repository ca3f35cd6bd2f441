/- Local periods and critical places: the program and the model, codes and all. -/
import Derived.Test.YtlaefpmfbnldfaaLoc
namespace Go.Proofs.Ytlaefpmfbnldfaa
set_option linter.unusedVariables false
set_option linter.unusedSimpArgs false
open Go.RowKit

noncomputable def locR (x : ByteArray) (i : Int) : Int × Int := if ¬ IsW x then (0, 1) else if i < 1 ∨ (x.size : Int) ≤ i then (0, 2) else ((loc (bl x) i.toNat : Int), 0)
theorem locR_bad {x : ByteArray} {i : Int} (h : ¬ IsW x) : locR x i = (0, 1) := if_pos h
theorem locR_out {x : ByteArray} {i : Int} (h : IsW x) (hi : i < 1 ∨ (x.size : Int) ≤ i) : locR x i = (0, 2) := by unfold locR; rw [if_neg (not_not_intro h), if_pos hi]
theorem locR_ok {x : ByteArray} {i : Nat} (h : IsW x) (h1 : 1 ≤ i) (h2 : i < x.size) : locR x (i : Int) = ((loc (bl x) i : Int), 0) := by unfold locR; rw [if_neg (not_not_intro h), if_neg (by omega)]; rfl

set_option maxRecDepth 100000 in
theorem impl_LocalPeriod (x : ByteArray) (i : Int) (w : World) (sx : x.size ≤ maxLen) (wi : (Lit.int .i64 i).wf = true) :
    Calls Try.prog 31 #[.string x, .int .i64 i] w fun e w' => e = .returned (.tuple #[.int .i64 (locR x i).1, .int .i64 (locR x i).2]) ∧ Below w.heap.size w w' := by
  by_cases h : IsW x
  · have h1 := h.size
    by_cases hi : i < 1 ∨ (x.size : Int) ≤ i
    · rw [locR_out h hi]
      have H := Lib.hid h
      clear h
      by_cases h2 : i < 1
      · go_enter Try.func31, Try.ntmps31
        go_wp2_with fail
        refine (isWord_yes x _ H.out).mono ?_
        rintro e w1 ⟨rfl, b1⟩
        go_wp2_with fail
        go_ret2
        exact ⟨rfl, b1⟩
      · have h3 : (x.size : Int) ≤ i := by omega
        clear hi
        go_enter Try.func31, Try.ntmps31
        go_wp2_with fail
        refine (isWord_yes x _ H.out).mono ?_
        rintro e w1 ⟨rfl, b1⟩
        go_wp2_with fail
        go_ret2
        exact ⟨rfl, b1⟩
    · obtain ⟨n, rfl⟩ := Int.eq_ofNat_of_zero_le (show 0 ≤ i by omega)
      have n1 : 1 ≤ n := by omega
      have n2 : n < x.size := by omega
      clear hi
      rw [locR_ok h n1 n2]
      have H := Lib.hid h
      clear h
      go_enter Try.func31, Try.ntmps31
      go_wp2_with fail
      refine (isWord_yes x _ H.out).mono ?_
      rintro e w1 ⟨rfl, b1⟩
      go_wp2_with fail
      refine (localPeriod_any x n _ h1 n1 n2).mono ?_
      rintro e w2 ⟨rfl, b2⟩
      go_wp2_with fail
      go_ret2
      exact ⟨rfl, b1.then b2⟩
  · rw [locR_bad h]
    have H := Lib.hid h
    clear h
    go_enter Try.func31, Try.ntmps31
    go_wp2_with fail
    refine (isWord_not x _ sx H.out).mono ?_
    rintro e w1 ⟨rfl, b1⟩
    go_wp2_with fail
    go_ret2
    exact ⟨rfl, b1⟩

set_option maxRecDepth 100000 in
theorem spec_LocalPeriod (x : ByteArray) (i : Int) (w : World) (sx : x.size ≤ maxLen) (wi : (Lit.int .i64 i).wf = true) :
    Calls Try.prog 30 #[.string x, .int .i64 i] w fun e w' => e = .returned (.tuple #[.int .i64 (locR x i).1, .int .i64 (locR x i).2]) ∧ Below w.heap.size w w' := by
  by_cases h : IsW x
  · have h1 := h.size
    by_cases hi : i < 1 ∨ (x.size : Int) ≤ i
    · rw [locR_out h hi]
      have H := Lib.hid h
      have HI := Lib.hid hi
      clear h hi
      go_enter Try.func30, Try.ntmps30
      go_wp2_with fail
      refine (l01Is_yes x _ H.out).mono ?_
      rintro e w1 ⟨rfl, b1⟩
      go_wp2_with fail
      refine (l01In_no _ _ _ _ (by have := HI.out; omega)).mono ?_
      rintro e w2 ⟨rfl, b2⟩
      go_wp2_with fail
      go_ret2
      exact ⟨rfl, b1.then b2⟩
    · obtain ⟨n, rfl⟩ := Int.eq_ofNat_of_zero_le (show 0 ≤ i by omega)
      have n1 : 1 ≤ n := by omega
      have n2 : n < x.size := by omega
      clear hi
      rw [locR_ok h n1 n2]
      have H := Lib.hid h
      clear h
      go_enter Try.func30, Try.ntmps30
      go_wp2_with fail
      refine (l01Is_yes x _ H.out).mono ?_
      rintro e w1 ⟨rfl, b1⟩
      go_wp2_with fail
      refine (l01In_yes _ _ _ _ (by omega) (by omega)).mono ?_
      rintro e w2 ⟨rfl, b2⟩
      go_wp2_with fail
      refine (l02Local_any x n _ h1 n1 n2).mono ?_
      rintro e w3 ⟨rfl, b3⟩
      go_wp2_with fail
      go_ret2
      exact ⟨rfl, (b1.then b2).then b3⟩
  · rw [locR_bad h]
    have H := Lib.hid h
    clear h
    go_enter Try.func30, Try.ntmps30
    go_wp2_with fail
    refine (l01Is_no x _ sx H.out).mono ?_
    rintro e w1 ⟨rfl, b1⟩
    go_wp2_with fail
    go_ret2
    exact ⟨rfl, b1⟩

noncomputable def critsR (x : ByteArray) : List Int × Int := if ¬ IsW x then ([], 1) else (critR (bl x) (x.size - 1), 0)
theorem critsR_bad {x : ByteArray} (h : ¬ IsW x) : critsR x = ([], 1) := if_pos h
theorem critsR_ok {x : ByteArray} (h : IsW x) : critsR x = (critR (bl x) (x.size - 1), 0) := by unfold critsR; rw [if_neg (not_not_intro h)]
theorem critsR_len (x : ByteArray) : (critsR x).1.length ≤ 4096 := by
  by_cases h : IsW x
  · rw [critsR_ok h]; have h1 := h.size; have h2 := critR_len (bl x) (x.size - 1); show (critR (bl x) (x.size - 1)).length ≤ 4096; omega
  · rw [critsR_bad h]; decide

set_option maxRecDepth 100000 in
set_option maxHeartbeats 1000000 in
theorem impl_CriticalPlaces (x : ByteArray) (w : World) (sx : x.size ≤ maxLen) :
    Calls Try.prog 33 #[.string x] w (RetI (critsR x).1 (critsR x).2 w) := by
  obtain ⟨i0, hi, hz0, hz1, hz2⟩ := info_parts infoI64
  by_cases h : IsW x
  · rw [critsR_ok h]
    have h1 := h.size
    have H := Lib.hid h
    clear h
    go_enter Try.func33, Try.ntmps33
    go_wp2_with fail
    refine (isWord_yes x _ H.out).mono ?_
    rintro e w1 ⟨rfl, b1⟩
    go_wp2_with fail
    go_loopw [4, 5] (fun v i wr => ∃ k : Nat, k ≤ x.size - 1 ∧ i = .int .i64 ((k : Int) + 1) ∧ OwnI wr w.heap.size v (critR (bl x) k) ∧ Below w.heap.size w wr)
      (fun _ i _ => x.size + 1 - (intOf i).toNat)
    case atStart => exact ⟨0, Nat.zero_le _, rfl, OwnI.nil _ _, b1⟩
    case round =>
      obtain ⟨k, hk, rfl, hown, hB⟩ := hrel
      have hbz := hB.size
      have hlen := critR_len (bl x) k
      by_cases hp : k + 1 < x.size
      · have cL := localPeriod_any x (k + 1) wr h1 (by omega) hp
        have CP := Lib.hid fun w => leastPeriod_any x w h1 (by omega)
        rw [show ((k + 1 : Nat) : Int) = (k : Int) + 1 by omega] at cL
        have CL := Lib.hid cL
        clear cL
        by_cases he : loc (bl x) (k + 1) = lp (bl x)
        · have HS := Lib.hid (critR_hit (bl x) k he)
          rw [he] at CL
          clear he
          generalize critR (bl x) k = L at hown hlen HS
          generalize lp (bl x) = a at *
          go_wp2_with fail
          refine CL.out.mono ?_
          rintro e w2 ⟨rfl, b2⟩
          go_wp2_with fail
          refine (CP.out _).mono ?_
          rintro e w3 ⟨rfl, b3⟩
          have hown2 := (hown.below b2).below b3
          have hB2 := (hB.then b2).then b3
          have hbz2 := hB2.size
          clear hown hB hbz b2 b3
          go_wp2_with (at_builtin; refine wpList_append_own _ rfl _ _ 22 rfl w.heap.size 2 i0 (.int .i64 0) 1 8 Try.underlying22 hi hz0 hz1 hz2 rfl (by decide) _ _ _ rfl (hown2.alloc _) ⟨_, 0, none⟩ 1 1 [.int .i64 ((k : Int) + 1)] rfl rfl (cell_new _ _ _) (by intro u hu; simp at hu; subst hu; rfl) (by unfold maxLen; omega) (by omega) (by simp; omega) ?_; intro v' w4 hown' hgrow _)
          go_roundw
          case rel =>
            refine ⟨k + 1, by omega, by go_num, ?_, ?_⟩
            · unfold OwnI; rw [HS.out, List.length_append, ← map_snoc]; exact hown'
            · exact (hB2.alloc hbz2 _).grown hgrow (by simp; omega) (fun q hq => (hown2.lt q hq).1)
          case measure => simp [intOf]; omega
        · have HS := Lib.hid (critR_miss (bl x) k he)
          have hee : ¬ ((loc (bl x) (k + 1) : Nat) : Int) = (lp (bl x) : Int) := by omega
          clear he
          generalize loc (bl x) (k + 1) = b at *
          generalize lp (bl x) = a at *
          go_wp2_with fail
          refine CL.out.mono ?_
          rintro e w2 ⟨rfl, b2⟩
          go_wp2_with fail
          refine (CP.out _).mono ?_
          rintro e w3 ⟨rfl, b3⟩
          go_wp2_with fail
          go_roundw
          case rel => exact ⟨k + 1, by omega, by go_num, by rw [HS.out]; exact (hown.below b2).below b3, (hB.then b2).then b3⟩
          case measure => simp [intOf]; omega
      · have hke : k = x.size - 1 := by omega
        have HO := Lib.hid hown
        have HK := Lib.hid hke
        clear hown
        go_wp2
        go_ret2
        rw [← HK.out]
        exact ⟨_, rfl, HO.out, hB⟩
  · rw [critsR_bad h]
    have H := Lib.hid h
    clear h
    go_enter Try.func33, Try.ntmps33
    go_wp2_with fail
    refine (isWord_not x _ sx H.out).mono ?_
    rintro e w1 ⟨rfl, b1⟩
    go_wp2_with fail
    go_ret2
    exact ⟨_, rfl, OwnI.nil _ _, b1⟩

set_option maxRecDepth 100000 in
set_option maxHeartbeats 1000000 in
theorem spec_CriticalPlaces (x : ByteArray) (w : World) (sx : x.size ≤ maxLen) :
    Calls Try.prog 32 #[.string x] w (RetI (critsR x).1 (critsR x).2 w) := by
  obtain ⟨i0, hi, hz0, hz1, hz2⟩ := info_parts infoI64
  by_cases h : IsW x
  · rw [critsR_ok h]
    have h1 := h.size
    have H := Lib.hid h
    clear h
    go_enter Try.func32, Try.ntmps32
    go_wp2_with fail
    refine (l01Is_yes x _ H.out).mono ?_
    rintro e w1 ⟨rfl, b1⟩
    go_wp2_with fail
    go_loopw [4, 5] (fun v i wr => ∃ k : Nat, k ≤ x.size - 1 ∧ i = .int .i64 ((k : Int) + 1) ∧ OwnI wr w.heap.size v (critR (bl x) k) ∧ Below w.heap.size w wr)
      (fun _ i _ => x.size + 1 - (intOf i).toNat)
    case atStart => exact ⟨0, Nat.zero_le _, rfl, OwnI.lit0 w1 b1.size, b1.alloc b1.size _⟩
    case round =>
      obtain ⟨k, hk, rfl, hown, hB⟩ := hrel
      have hbz := hB.size
      have hlen := critR_len (bl x) k
      by_cases hp : k + 1 < x.size
      · have cL := l02Local_any x (k + 1) wr h1 (by omega) hp
        have CP := Lib.hid fun w => l02Periods_first x w h1 (by omega)
        rw [show ((k + 1 : Nat) : Int) = (k : Int) + 1 by omega] at cL
        have CL := Lib.hid cL
        clear cL
        by_cases he : loc (bl x) (k + 1) = lp (bl x)
        · have HS := Lib.hid (critR_hit (bl x) k he)
          rw [he] at CL
          clear he
          generalize critR (bl x) k = L at hown hlen HS
          generalize lp (bl x) = a at *
          go_wp2_with fail
          refine CL.out.mono ?_
          rintro e w2 ⟨rfl, b2⟩
          go_wp2_with fail
          refine (CP.out _).mono ?_
          rintro e w3 ⟨g, n, cp, rfl, hn, hc, k1, b3⟩
          have hown2 := (hown.below b2).below b3
          have hB2 := (hB.then b2).then b3
          have hbz2 := hB2.size
          clear hown hB hbz b2 b3
          go_wp2_with (at_builtin; refine wpList_append_own _ rfl _ _ 22 rfl w.heap.size 2 i0 (.int .i64 0) 1 8 Try.underlying22 hi hz0 hz1 hz2 rfl (by decide) _ _ _ rfl (hown2.alloc _) ⟨_, 0, none⟩ 1 1 [.int .i64 ((k : Int) + 1)] rfl rfl (cell_new _ _ _) (by intro u hu; simp at hu; subst hu; rfl) (by unfold maxLen; omega) (by omega) (by simp; omega) ?_; intro v' w4 hown' hgrow _)
          go_roundw
          case rel =>
            refine ⟨k + 1, by omega, by go_num, ?_, ?_⟩
            · unfold OwnI; rw [HS.out, List.length_append, ← map_snoc]; exact hown'
            · exact (hB2.alloc hbz2 _).grown hgrow (by simp; omega) (fun q hq => (hown2.lt q hq).1)
          case measure => simp [intOf]; omega
        · have HS := Lib.hid (critR_miss (bl x) k he)
          have hee : ¬ ((loc (bl x) (k + 1) : Nat) : Int) = (lp (bl x) : Int) := by omega
          clear he
          generalize loc (bl x) (k + 1) = b at *
          generalize lp (bl x) = a at *
          go_wp2_with fail
          refine CL.out.mono ?_
          rintro e w2 ⟨rfl, b2⟩
          go_wp2_with fail
          refine (CP.out _).mono ?_
          rintro e w3 ⟨g, n, cp, rfl, hn, hc, k1, b3⟩
          go_wp2_with fail
          go_roundw
          case rel => exact ⟨k + 1, by omega, by go_num, by rw [HS.out]; exact (hown.below b2).below b3, (hB.then b2).then b3⟩
          case measure => simp [intOf]; omega
      · have hke : k = x.size - 1 := by omega
        have HO := Lib.hid hown
        have HK := Lib.hid hke
        clear hown
        go_wp2
        go_ret2
        rw [← HK.out]
        exact ⟨_, rfl, HO.out, hB⟩
  · rw [critsR_bad h]
    have H := Lib.hid h
    clear h
    go_enter Try.func32, Try.ntmps32
    go_wp2_with fail
    refine (l01Is_no x _ sx H.out).mono ?_
    rintro e w1 ⟨rfl, b1⟩
    go_wp2_with fail
    go_ret2
    exact ⟨_, rfl, OwnI.nil _ _, b1⟩

end Go.Proofs.Ytlaefpmfbnldfaa
