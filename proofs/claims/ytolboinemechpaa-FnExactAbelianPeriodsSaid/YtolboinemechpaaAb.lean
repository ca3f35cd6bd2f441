/- Vectors of words: the program and the model; words that are alike. -/
import Derived.Test.YtolboinemechpaaAbPlain
import Derived.Test.YtolboinemechpaaCount
import Derived.Test.YtolboinemechpaaV5
import Derived.Test.YtolboinemechpaaWords
import Derived.Laws.Cover3
namespace Go.Proofs.Ytolboinemechpaa
set_option linter.unusedVariables false
set_option linter.unusedSimpArgs false
open Go.RowKit

set_option maxRecDepth 100000 in
set_option maxHeartbeats 1000000 in
theorem vectorOf_any (x : ByteArray) (w : World) (h : IsW x) :
    Calls Try.prog 53 #[.string x] w fun e w' => e = .returned (vecV (ct (bl x))) ∧ Below w.heap.size w w' := by
  have hx := h.size
  have CI : Hid (∀ W, Calls Try.prog 81 #[.string x] W (RetI (clv (bl x)) 0 W)) := Lib.hid fun W => by
    have := impl_CountLetters x W (by unfold maxLen; omega)
    rw [countR_ok h, cntK_all h] at this
    exact this
  clear h
  go_enter Try.func53, Try.ntmps53
  go_wp2_with fail
  refine (CI.out _).mono ?_
  rintro e w1 ⟨v, rfl, o, b1⟩
  obtain ⟨g, cap, rfl, hBg, hg, hc, hm, cell, _⟩ := o.row (by rw [clv_len]; decide)
  have c0 := cell 0 (by rw [clv_len]; decide)
  have c1 := cell 1 (by rw [clv_len]; decide)
  have c2 := cell 2 (by rw [clv_len]; decide)
  have c3 := cell 3 (by rw [clv_len]; decide)
  have c4 := cell 4 (by rw [clv_len]; decide)
  simp only [clv, List.getElem_cons_zero, List.getElem_cons_succ] at c0 c1 c2 c3 c4
  have hat : ∀ W, (Instr.arrayAt 55 (.slice (some ⟨g, 0, none⟩) 5 cap)).run Try.prog W = .ok (.pointer (some ⟨g, 0, none⟩)) W := fun W => run_arrayAt W _ _ 5 _ 5 cap Try.underlying55 (Nat.le_refl _)
  have A1 : Arr5 w1 w.heap.size (fun _ => 0) := (Arr5.new w (fun _ => 0)).later b1
  have z0 := A1.cell 0 (by decide)
  have z1 := A1.cell 1 (by decide)
  have z2 := A1.cell 2 (by decide)
  have z3 := A1.cell 3 (by decide)
  have z4 := A1.cell 4 (by decide)
  have f0 := A1.frozen 0
  have f1 := A1.frozen 1
  have f2 := A1.frozen 2
  have f3 := A1.frozen 3
  have f4 := A1.frozen 4
  rw [clv_len]
  have HA := Lib.hid A1
  have HB := Lib.hid b1
  clear cell o A1 b1
  go_wp2_with (simp only [hat])
  have A5 := ((((HA.out.set 0 (by decide) (ct (bl x) 0)).set 1 (by decide) (ct (bl x) 1)).set 2 (by decide) (ct (bl x) 2)).set 3 (by decide) (ct (bl x) 3)).set 4 (by decide) (ct (bl x) 4)
  have A6 : Arr5 _ w.heap.size (ct (bl x)) := A5.congr fun j hj => by
    rcases (show j = 0 ∨ j = 1 ∨ j = 2 ∨ j = 3 ∨ j = 4 by omega) with rfl | rfl | rfl | rfl | rfl <;> simp
  have hsz : w.heap.size < w1.heap.size := by have := HB.out.size; simp at this; omega
  have hB := (((((((Below.refl w.heap.size w).alloc (Nat.le_refl _) (.cells #[.int .i64 0, .int .i64 0, .int .i64 0, .int .i64 0, .int .i64 0] 55)).trans (HB.out.mono (by simp))).setCell (p := ⟨w.heap.size, 0, none⟩) (Nat.le_refl _) (.int .i64 (ct (bl x) 0 : Int))).setCell (p := ⟨w.heap.size, 1, none⟩) (Nat.le_refl _) (.int .i64 (ct (bl x) 1 : Int))).setCell (p := ⟨w.heap.size, 2, none⟩) (Nat.le_refl _) (.int .i64 (ct (bl x) 2 : Int))).setCell (p := ⟨w.heap.size, 3, none⟩) (Nat.le_refl _) (.int .i64 (ct (bl x) 3 : Int))).setCell (p := ⟨w.heap.size, 4, none⟩) (Nat.le_refl _) (.int .i64 (ct (bl x) 4 : Int))
  clear z0 z1 z2 z3 z4 f0 f1 f2 f3 f4 A5
  generalize ((((w1.setCell _ _).setCell _ _).setCell _ _).setCell _ _).setCell _ _ = W5 at *
  have z0 := A6.cell 0 (by decide)
  have z1 := A6.cell 1 (by decide)
  have z2 := A6.cell 2 (by decide)
  have z3 := A6.cell 3 (by decide)
  have z4 := A6.cell 4 (by decide)
  exact bodyPost_ret (v := vecV (ct (bl x))) (by simp [results, Try.results53, go_sem, z0, z1, z2, z3, z4]) rfl ⟨rfl, hB⟩

set_option maxRecDepth 100000 in
set_option maxHeartbeats 1000000 in
theorem l07Same_any (B B' : Nat) (v u : Value) (a b : List UInt8) (w : World) (ha : OwnI w B v (clv a)) (hb : OwnI w B' u (clv b)) :
    Calls Try.prog 50 #[v, u] w fun e w' => e = .returned (.bool (vq a b)) ∧ Below w.heap.size w w' := by
  obtain ⟨g1, c1, rfl, _, hg1, hc1, hm, cell1, _⟩ := ha.row (by rw [clv_len]; decide)
  obtain ⟨g2, c2, rfl, _, hg2, hc2, _, cell2, _⟩ := hb.row (by rw [clv_len]; decide)
  have C1 : Hid (∀ j, j < 5 → w.cell? ⟨g1, j, none⟩ = some (.int .i64 (ct a j : Int))) := Lib.hid fun j hj => by
    have h1 := cell1 j (by rw [clv_len]; exact hj)
    have h2 := clv_get a j hj
    rw [List.getElem?_eq_getElem (by rw [clv_len]; exact hj)] at h2
    rw [h1, Option.some.inj h2]
  have C2 : Hid (∀ j, j < 5 → w.cell? ⟨g2, j, none⟩ = some (.int .i64 (ct b j : Int))) := Lib.hid fun j hj => by
    have h1 := cell2 j (by rw [clv_len]; exact hj)
    have h2 := clv_get b j hj
    rw [List.getElem?_eq_getElem (by rw [clv_len]; exact hj)] at h2
    rw [h1, Option.some.inj h2]
  rw [clv_len] at hc1 hc2 ⊢
  rw [clv_len]
  clear ha hb cell1 cell2 hm
  obtain ⟨R, hR⟩ : ∃ R, vq a b = R := ⟨_, rfl⟩
  rw [hR]
  have HR := Lib.hid hR
  clear hR
  go_enter Try.func50, Try.ntmps50
  go_wp2
  go_loopw [5] (fun i wr => ∃ k : Nat, k ≤ 5 ∧ i = .int .i64 k ∧ Hid (vqTo a b k) ∧ Below w.heap.size w wr) (fun i _ => 5 - (intOf i).toNat)
  case atStart => exact ⟨0, Nat.zero_le _, rfl, Lib.hid (vqTo.zero a b), Below.refl _ _⟩
  case round =>
    obtain ⟨k, hk, rfl, HQ, hB⟩ := hrel
    by_cases hp : k < 5
    · have k1 : wr.cell? ⟨g1, k, none⟩ = some (.int .i64 (ct a k : Int)) := by rw [(bcell hB).1 g1 k hg1]; exact C1.out k hp
      have k2 : wr.cell? ⟨g2, k, none⟩ = some (.int .i64 (ct b k : Int)) := by rw [(bcell hB).1 g2 k hg2]; exact C2.out k hp
      have hpc1 : k < c1 := by omega
      have hpc2 : k < c2 := by omega
      by_cases he : ct a k = ct b k
      · have HQ2 := Lib.hid (HQ.out.succ he)
        have hei : (ct a k : Int) = (ct b k : Int) := by rw [he]
        generalize (ct a k : Int) = z at *
        generalize (ct b k : Int) = y at *
        clear he
        go_wp2
        go_quiet (fail)
        go_wp2
        go_roundw
        case rel => exact ⟨k + 1, by omega, by go_num, HQ2, hB.drewN _⟩
        case measure => simp [intOf]; omega
      · have HN : Hid (R = false) := Lib.hid (by rw [← HR.out]; exact vq_no hp he)
        have hei : ¬ (ct a k : Int) = (ct b k : Int) := by omega
        generalize (ct a k : Int) = z at *
        generalize (ct b k : Int) = y at *
        clear he
        go_wp2
        go_quiet (fail)
        go_wp2
        go_ret
        exact ⟨by rw [HN.out]; rfl, hB.drewN _⟩
    · have hke : k = 5 := by omega
      subst hke
      have HN : Hid (R = true) := Lib.hid (by rw [← HR.out]; exact HQ.out.all)
      go_wp2
      go_ret
      exact ⟨by rw [HN.out]; rfl, hB⟩

/-- A part of a text, by whatever the bounds are called. -/
theorem slice_nm (x : ByteArray) (a b : Int) (n m : Nat) (ha : a = (n : Int)) (hb : b = (m : Int)) (hnm : n ≤ m) (hm : m ≤ x.size) (W : World) :
    (Instr.slice 9 (.string x) (some (.int .i64 a)) (some (.int .i64 b)) none).run Try.prog W = .ok (.string (x.extract n m)) W := by
  subst ha hb
  exact run_slice_string (P := Try.prog) W 9 x .i64 .i64 (n : Int) (m : Int) Try.underlying9 (by omega) (by omega) (by omega)
theorem slice_0m (x : ByteArray) (m : Nat) (hm : m ≤ x.size) (W : World) :
    (Instr.slice 9 (.string x) none (some (.int .i64 (m : Int))) none).run Try.prog W = .ok (.string (x.extract 0 m)) W := by
  have := run_slice_string_h (P := Try.prog) W 9 x Try.underlying9 .i64 (m : Int) (by omega) (by omega)
  simpa using this
theorem l01Count_ct (x : ByteArray) (w : World) (h : IsW x) :
    Calls Try.prog 51 #[.string x] w fun e w' => ∃ v, e = .returned v ∧ OwnI w' w.heap.size v (clv (bl x)) ∧ Below w.heap.size w w' := by
  have := l01Count_any x w h
  rwa [cntK_all h] at this

set_option maxRecDepth 100000 in
theorem impl_AreAlike (x y : ByteArray) (w : World) (sx : x.size ≤ maxLen) (sy : y.size ≤ maxLen) :
    Calls Try.prog 16 #[.string x, .string y] w fun e w' => e = .returned (.tuple #[.bool (alikeR x y).1, .int .i64 (alikeR x y).2]) ∧ Below w.heap.size w w' := by
  by_cases h : IsW x ∧ IsW y
  · rw [alikeR_ok h]
    have H := Lib.hid h
    have VX := Lib.hid fun W => vectorOf_any x W h.1
    have VY := Lib.hid fun W => vectorOf_any y W h.2
    have hv := vq_int (bl x) (bl y)
    have EQ := Lib.hid fun W => eq5_run W (ct (bl x) 0 : Int) (ct (bl x) 1) (ct (bl x) 2) (ct (bl x) 3) (ct (bl x) 4) (ct (bl y) 0) (ct (bl y) 1) (ct (bl y) 2) (ct (bl y) 3) (ct (bl y) 4)
    rw [hv] at EQ
    have eq := EQ.out
    clear h hv
    go_enter Try.func16, Try.ntmps16
    go_wp2_with (go_at_call 52; refine (areWords2_yes _ x y _ (by simp) (by simp [go_sem]) (by simp [go_sem]) H.out.1 H.out.2).mono ?_; rintro e w1 ⟨rfl, b1⟩)
    go_wp2_with fail
    refine (VX.out _).mono ?_
    rintro e w2 ⟨rfl, b2⟩
    go_wp2_with fail
    refine (VY.out _).mono ?_
    rintro e w3 ⟨rfl, b3⟩
    go_wp2_with fail
    go_ret2
    refine ⟨rfl, ?_⟩
    have := b1.mono (show w.heap.size ≤ _ by simp)
    exact (((Below.new _ _).trans this).then b2).then b3
  · rw [alikeR_bad h]
    have H := Lib.hid h
    clear h
    go_enter Try.func16, Try.ntmps16
    go_wp2_with (go_at_call 52; refine (areWords2_no _ x y _ (by simp) (by simp [go_sem]) (by simp [go_sem]) sx sy H.out).mono ?_; rintro e w1 ⟨rfl, b1⟩)
    go_ret2
    have := b1.mono (show w.heap.size ≤ _ by simp)
    exact ⟨rfl, (Below.new _ _).trans this⟩

set_option maxRecDepth 100000 in
theorem spec_AreAlike (x y : ByteArray) (w : World) (sx : x.size ≤ maxLen) (sy : y.size ≤ maxLen) :
    Calls Try.prog 15 #[.string x, .string y] w fun e w' => e = .returned (.tuple #[.bool (alikeR x y).1, .int .i64 (alikeR x y).2]) ∧ Below w.heap.size w w' := by
  by_cases hx : IsW x
  · by_cases hy : IsW y
    · rw [alikeR_ok ⟨hx, hy⟩]
      have HX := Lib.hid hx
      have HY := Lib.hid hy
      clear hx hy
      go_enter Try.func15, Try.ntmps15
      go_wp2_with fail
      refine (l01Is_yes x _ HX.out).mono ?_
      rintro e w1 ⟨rfl, b1⟩
      go_wp2_with fail
      refine (l01Is_yes y _ HY.out).mono ?_
      rintro e w2 ⟨rfl, b2⟩
      go_wp2_with fail
      refine (l01Count_ct x _ HX.out).mono ?_
      rintro e w3 ⟨v, rfl, o3, b3⟩
      go_wp2_with fail
      refine (l01Count_ct y _ HY.out).mono ?_
      rintro e w4 ⟨u, rfl, o4, b4⟩
      have o3 := o3.below b4
      go_wp2_with fail
      refine (l07Same_any _ _ _ _ _ _ _ o3 o4).mono ?_
      rintro e w5 ⟨rfl, b5⟩
      go_wp2_with fail
      go_ret2
      exact ⟨rfl, (((b1.then b2).then b3).then b4).then b5⟩
    · rw [alikeR_bad (fun h => hy h.2)]
      have HX := Lib.hid hx
      have HY := Lib.hid hy
      clear hx hy
      go_enter Try.func15, Try.ntmps15
      go_wp2_with fail
      refine (l01Is_yes x _ HX.out).mono ?_
      rintro e w1 ⟨rfl, b1⟩
      go_wp2_with fail
      refine (l01Is_no y _ sy HY.out).mono ?_
      rintro e w2 ⟨rfl, b2⟩
      go_wp2_with fail
      go_ret2
      exact ⟨rfl, b1.then b2⟩
  · rw [alikeR_bad (fun h => hx h.1)]
    have HX := Lib.hid hx
    clear hx
    go_enter Try.func15, Try.ntmps15
    go_wp2_with fail
    refine (l01Is_no x _ sx HX.out).mono ?_
    rintro e w1 ⟨rfl, b1⟩
    go_wp2_with fail
    go_ret2
    exact ⟨rfl, b1⟩

end Go.Proofs.Ytolboinemechpaa
