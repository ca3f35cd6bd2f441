/- The words with a vector: the program's function. -/
import Derived.Test.YtolboinemechpaaWw
namespace Go.Proofs.Ytolboinemechpaa
set_option linter.unusedVariables false
set_option linter.unusedSimpArgs false
open Go.RowKit

set_option maxRecDepth 100000 in
set_option maxHeartbeats 1000000 in
theorem impl_WordsWith (B : Nat) (v : Value) (L : List Int) (w : World) (h : OwnI w B v L) (hl : L.length ≤ 1048576) :
    Calls Try.prog 23 #[v] w (RetS (wwR L).1 (wwR L).2 w) := by
  have IS := Lib.hid fun W (o : OwnI W B v L) => isSmallVector_any B v L W o hl
  have HO := Lib.hid h
  by_cases hs : smallV L
  · simp only [hs, decide_true] at IS
    have hs8 : sm (fv L) 5 ≤ 12 := by have := hs.2.2; omega
    have CW := Lib.hid fun W => countWith_any (fv L) W hs8
    have WW := Lib.hid fun W => wordsWith_any (sm (fv L) 5) (fv L) W rfl hs.2.2
    have HG := Lib.hid hs.get
    have H5 := Lib.hid hs.1
    have HNW := Lib.hid (nw_le hs8)
    obtain ⟨f, hf⟩ : ∃ f, fv L = f := ⟨_, rfl⟩
    obtain ⟨q, hq⟩ : ∃ q, nw f = q := ⟨_, rfl⟩
    by_cases hk : 300 < nw (fv L)
    · rw [wwR_many hs hk]
      rw [hf] at CW WW HG HNW hk
      rw [hq] at CW HNW hk
      clear hq hf hs hs8 h
      have hki : (300 : Int) < (q : Int) := by omega
      go_enter Try.func23, Try.ntmps23
      go_wp2_with fail
      refine (IS.out _ HO.out).mono ?_
      rintro e w1 ⟨rfl, b1⟩
      obtain ⟨g0, cap, rfl, hg0, hcap, CL⟩ := own_five (HO.out.below b1) H5.out HG.out
      have c0 := CL.out 0 (by decide)
      have c1 := CL.out 1 (by decide)
      have c2 := CL.out 2 (by decide)
      have c3 := CL.out 3 (by decide)
      have c4 := CL.out 4 (by decide)
      have hat : ∀ W, (Instr.arrayAt 55 (.slice (some ⟨g0, 0, none⟩) 5 cap)).run Try.prog W = .ok (.pointer (some ⟨g0, 0, none⟩)) W := fun W => run_arrayAt W _ _ 5 _ 5 cap Try.underlying55 (Nat.le_refl _)
      go_wp2_with (first | (simp only [hat]) | (go_at_call 60; with_reducible refine (CW.out _).mono ?_; rintro e w2 ⟨rfl, b2⟩))
      go_ret2
      exact ⟨_, rfl, OwnS.nil _ _, b1.then ((Below.new _ _).then b2)⟩
    · rw [wwR_ok hs hk]
      rw [hf] at CW WW HG HNW hk ⊢
      rw [hq] at CW HNW hk
      obtain ⟨D, hD⟩ : ∃ D, (wl (sm f 5) f).map bt = D := ⟨_, rfl⟩
      rw [hD] at WW ⊢
      clear hq hf hs hs8 h hD
      have hki : ¬ (300 : Int) < (q : Int) := by omega
      go_enter Try.func23, Try.ntmps23
      go_wp2_with fail
      refine (IS.out _ HO.out).mono ?_
      rintro e w1 ⟨rfl, b1⟩
      obtain ⟨g0, cap, rfl, hg0, hcap, CL⟩ := own_five (HO.out.below b1) H5.out HG.out
      have c0 := CL.out 0 (by decide)
      have c1 := CL.out 1 (by decide)
      have c2 := CL.out 2 (by decide)
      have c3 := CL.out 3 (by decide)
      have c4 := CL.out 4 (by decide)
      have hat : ∀ W, (Instr.arrayAt 55 (.slice (some ⟨g0, 0, none⟩) 5 cap)).run Try.prog W = .ok (.pointer (some ⟨g0, 0, none⟩)) W := fun W => run_arrayAt W _ _ 5 _ 5 cap Try.underlying55 (Nat.le_refl _)
      go_wp2_with (first | (simp only [hat]) | (go_at_call 60; with_reducible refine (CW.out _).mono ?_; rintro e w2 ⟨rfl, b2⟩; have A := (Arr5.new w1 f).later b2; have z0 := A.cell 0 (by decide); have z1 := A.cell 1 (by decide); have z2 := A.cell 2 (by decide); have z3 := A.cell 3 (by decide); have z4 := A.cell 4 (by decide)) | (go_at_call 64; with_reducible refine (WW.out _).mono ?_; rintro e w3 ⟨u, rfl, o3, b3⟩))
      go_ret2
      exact ⟨_, rfl, OwnS.base o3 (by have h1 := b1.size; have h2 := b2.size; rw [World.size_alloc] at h2; omega), (b1.then ((Below.new _ _).then b2)).then b3⟩
  · simp only [hs, decide_false] at IS
    rw [wwR_out hs]
    clear hs h
    go_enter Try.func23, Try.ntmps23
    go_wp2_with fail
    refine (IS.out _ HO.out).mono ?_
    rintro e w1 ⟨rfl, b1⟩
    go_wp2_with fail
    go_ret2
    exact ⟨_, rfl, OwnS.nil _ _, b1⟩

theorem wwR_len (L : List Int) : (wwR L).1.length ≤ 390625 := by
  by_cases hs : smallV L
  · by_cases hk : 300 < nw (fv L)
    · rw [wwR_many hs hk]; decide
    · rw [wwR_ok hs hk, List.length_map]
      exact Nat.le_trans (wl_len _ _) (Nat.pow_le_pow_right (by decide) hs.2.2)
  · rw [wwR_out hs]; decide

end Go.Proofs.Ytolboinemechpaa
