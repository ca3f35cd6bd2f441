/- The first word without abelian powers: the functions. -/
import Derived.Test.YtolboinemechpabFf
import Derived.Test.YtolboinemechpabTurn
namespace Go.Proofs.Ytolboinemechpab
set_option linter.unusedVariables false
set_option linter.unusedSimpArgs false
open Go.RowKit

set_option maxRecDepth 100000 in
set_option maxHeartbeats 1000000 in
theorem impl_FirstAbelianFree (m j k : Int) (w : World) (wm : (Lit.int .i64 m).wf = true) (wj : (Lit.int .i64 j).wf = true) (wk : (Lit.int .i64 k).wf = true) :
    Calls Try.prog 11 #[.int .i64 m, .int .i64 j, .int .i64 k] w fun e w' => e = .returned (.tuple #[.string (firstAR m j k).1, .int .i64 (firstAR m j k).2]) ∧ Below w.heap.size w w' := by
  by_cases h : m < 0 ∨ 16 < m ∨ j < 1 ∨ 4 < j ∨ k < 2 ∨ 4 < k
  · rw [firstAR_out h]
    rcases (show m < 0 ∨ (0 ≤ m ∧ 16 < m) ∨ (0 ≤ m ∧ m ≤ 16 ∧ j < 1) ∨ (0 ≤ m ∧ m ≤ 16 ∧ 1 ≤ j ∧ 4 < j) ∨ (0 ≤ m ∧ m ≤ 16 ∧ 1 ≤ j ∧ j ≤ 4 ∧ k < 2) ∨ (0 ≤ m ∧ m ≤ 16 ∧ 1 ≤ j ∧ j ≤ 4 ∧ 2 ≤ k ∧ 4 < k) by omega) with h1 | ⟨h0, h1⟩ | ⟨h0, h1, h2⟩ | ⟨h0, h1, h2, h3⟩ | ⟨h0, h1, h2, h3, h4⟩ | ⟨h0, h1, h2, h3, h4, h5⟩
    all_goals
      clear h
      go_enter Try.func11, Try.ntmps11
      go_wp2
      go_ret2
      exact ⟨rfl, Below.refl _ _⟩
  · obtain ⟨m, rfl⟩ := Int.eq_ofNat_of_zero_le (show 0 ≤ m by omega)
    obtain ⟨j, rfl⟩ := Int.eq_ofNat_of_zero_le (show 0 ≤ j by omega)
    obtain ⟨k, rfl⟩ := Int.eq_ofNat_of_zero_le (show 0 ≤ k by omega)
    have m2 : m ≤ 16 := by omega
    have j1 : 1 ≤ j := by omega
    have j2 : j ≤ 4 := by omega
    have k1 : 2 ≤ k := by omega
    have k2 : k ≤ 4 := by omega
    have CF := Lib.hid fun W => firstFree_any m j k m2 j2 k1 k2 m ⟨#[]⟩ W (Nat.zero_add m) ⟨Nat.zero_le _, fun i hi => absurd hi (Nat.not_lt_zero i)⟩
    have HR : Hid (∀ (s : ByteArray) (ok : Bool), ((ok = true ∧ ff j k m (bl ⟨#[]⟩) = some (bl s)) ∨ (ok = false ∧ s = ⟨#[]⟩ ∧ ff j k m (bl ⟨#[]⟩) = none)) → firstAR (m : Int) (j : Int) (k : Int) = if ok = true then (s, 0) else (tE, 4)) := Lib.hid (by
      intro s ok hs
      rcases hs with ⟨rfl, e⟩ | ⟨rfl, _, e⟩
      · rw [firstAR_yes h e, if_pos rfl]; rfl
      · rw [firstAR_no h e, if_neg (by decide)])
    clear h
    generalize firstAR (m : Int) (j : Int) (k : Int) = R at *
    go_enter Try.func11, Try.ntmps11
    go_wp2_with fail
    refine (CF.out _).mono ?_
    rintro e w1 ⟨s, ok, rfl, HV, b1⟩
    have HR2 := Lib.hid (HR.out s ok HV.out)
    cases ok with
    | true =>
      go_simp
      go_wp2_with fail
      go_ret2
      exact ⟨by rw [HR2.out]; rfl, b1⟩
    | false =>
      go_simp
      go_wp2_with fail
      go_ret2
      exact ⟨by rw [HR2.out]; rfl, b1⟩

set_option maxRecDepth 100000 in
set_option maxHeartbeats 1000000 in
theorem spec_FirstAbelianFree (m j k : Int) (w : World) (wm : (Lit.int .i64 m).wf = true) (wj : (Lit.int .i64 j).wf = true) (wk : (Lit.int .i64 k).wf = true) :
    Calls Try.prog 10 #[.int .i64 m, .int .i64 j, .int .i64 k] w fun e w' => e = .returned (.tuple #[.string (firstAR m j k).1, .int .i64 (firstAR m j k).2]) ∧ Below w.heap.size w w' := by
  by_cases h1 : 0 ≤ m ∧ m ≤ 16
  · by_cases h2 : 1 ≤ j ∧ j ≤ 4
    · by_cases h3 : 2 ≤ k ∧ k ≤ 4
      · have h : ¬ (m < 0 ∨ 16 < m ∨ j < 1 ∨ 4 < j ∨ k < 2 ∨ 4 < k) := by omega
        obtain ⟨m, rfl⟩ := Int.eq_ofNat_of_zero_le h1.1
        obtain ⟨j, rfl⟩ := Int.eq_ofNat_of_zero_le (show 0 ≤ j by omega)
        obtain ⟨k, rfl⟩ := Int.eq_ofNat_of_zero_le (show 0 ≤ k by omega)
        have m2 : m ≤ 16 := by omega
        have j1 : 1 ≤ j := by omega
        have j2 : j ≤ 4 := by omega
        have k1 : 2 ≤ k := by omega
        have k2 : k ≤ 4 := by omega
        have CF := Lib.hid fun W => l07Find_any m j k m2 j2 k1 k2 m ⟨#[]⟩ W (Nat.zero_add m) ⟨Nat.zero_le _, fun i hi => absurd hi (Nat.not_lt_zero i)⟩
        have HR : Hid (∀ (s : ByteArray) (ok : Bool), ((ok = true ∧ ff j k m (bl ⟨#[]⟩) = some (bl s)) ∨ (ok = false ∧ s = ⟨#[]⟩ ∧ ff j k m (bl ⟨#[]⟩) = none)) → firstAR (m : Int) (j : Int) (k : Int) = if ok = true then (s, 0) else (tE, 4)) := Lib.hid (by
          intro s ok hs
          rcases hs with ⟨rfl, e⟩ | ⟨rfl, _, e⟩
          · rw [firstAR_yes h e, if_pos rfl]; rfl
          · rw [firstAR_no h e, if_neg (by decide)])
        clear h h1 h2 h3
        generalize firstAR (m : Int) (j : Int) (k : Int) = R at *
        go_enter Try.func10, Try.ntmps10
        go_wp2_with fail
        refine (l01In_yes _ _ _ _ (by omega) (by omega)).mono ?_
        rintro e w1 ⟨rfl, b1⟩
        go_wp2_with fail
        refine (l01In_yes _ _ _ _ (by omega) (by omega)).mono ?_
        rintro e w2 ⟨rfl, b2⟩
        go_wp2_with fail
        refine (l01In_yes _ _ _ _ (by omega) (by omega)).mono ?_
        rintro e w3 ⟨rfl, b3⟩
        go_wp2_with fail
        refine (CF.out _).mono ?_
        rintro e w4 ⟨s, ok, rfl, HV, b4⟩
        have HR2 := Lib.hid (HR.out s ok HV.out)
        cases ok with
        | true =>
          go_simp
          go_wp2_with fail
          go_ret2
          exact ⟨by rw [HR2.out]; rfl, ((b1.then b2).then b3).then b4⟩
        | false =>
          go_simp
          go_wp2_with fail
          go_ret2
          exact ⟨by rw [HR2.out]; rfl, ((b1.then b2).then b3).then b4⟩
      · rw [firstAR_out (by omega)]
        go_enter Try.func10, Try.ntmps10
        go_wp2_with fail
        refine (l01In_yes _ _ _ _ h1.1 h1.2).mono ?_
        rintro e w1 ⟨rfl, b1⟩
        go_wp2_with fail
        refine (l01In_yes _ _ _ _ h2.1 h2.2).mono ?_
        rintro e w2 ⟨rfl, b2⟩
        go_wp2_with fail
        refine (l01In_no _ _ _ _ h3).mono ?_
        rintro e w3 ⟨rfl, b3⟩
        go_wp2_with fail
        go_ret2
        exact ⟨rfl, (b1.then b2).then b3⟩
    · rw [firstAR_out (by omega)]
      go_enter Try.func10, Try.ntmps10
      go_wp2_with fail
      refine (l01In_yes _ _ _ _ h1.1 h1.2).mono ?_
      rintro e w1 ⟨rfl, b1⟩
      go_wp2_with fail
      refine (l01In_no _ _ _ _ h2).mono ?_
      rintro e w2 ⟨rfl, b2⟩
      go_wp2_with fail
      go_ret2
      exact ⟨rfl, b1.then b2⟩
  · rw [firstAR_out (by omega)]
    go_enter Try.func10, Try.ntmps10
    go_wp2_with fail
    refine (l01In_no _ _ _ _ h1).mono ?_
    rintro e w1 ⟨rfl, b1⟩
    go_wp2_with fail
    go_ret2
    exact ⟨rfl, b1⟩

end Go.Proofs.Ytolboinemechpab
