/- slices.Concat at three slices of numbers: the library's text walked; slices.Grow laid. -/
import Derived.Test.YtbhgghajbdlfkabGaps
import Derived.Test.YtbhgghajbdlfkabRows2
import Derived.Shelf.Spec.SlicesGrow
import Derived.Deep.LoopGhost
namespace Go.Proofs.Ytbhgghajbdlfkab
set_option linter.unusedVariables false
set_option linter.unusedSimpArgs false
open Go.RowKit Go.Shelf

def layGrow_ren : Go.Shelf.Ren := ⟨fun | 4 => 140 | n => n, fun | 22 => 41 | 25 => 2 | n => n, fun | n => n⟩
theorem layGrow : Go.Proofs.Lays8.n4 Try.prog layGrow_ren := {
  mixed := by kernel_rfl
  f4 := ⟨Try.f140.name, by decide, Try.func140.trans (congrArg some (by kernel_rfl))⟩
  t0 := Try.underlying0
  a0 := Try.isAgg0
  z0 := Try.sizeOf0
  v0 := Try.zeroValue0
  t3 := Try.underlying3
  a3 := Try.isAgg3
  z3 := Try.sizeOf3
  v3 := Try.zeroValue3
  t4 := Try.underlying4
  a4 := Try.isAgg4
  z4 := Try.sizeOf4
  v4 := Try.zeroValue4
  t9 := Try.underlying9
  a9 := Try.isAgg9
  z9 := Try.sizeOf9
  v9 := Try.zeroValue9
  t20 := Try.underlying20
  a20 := Try.isAgg20
  z20 := Try.sizeOf20
  v20 := Try.zeroValue20
  t22 := Try.underlying41
  a22 := Try.isAgg41
  z22 := Try.sizeOf41
  v22 := Try.zeroValue41 }

theorem slicesGrow_nil (n : Nat) (h0 : 0 < n) (h1 : n ≤ 1000) (w : World) :
    Calls Try.prog 140 #[.slice none 0 0, .int .i64 (n : Int)] w fun e w' => ∃ v, e = .returned v ∧ w'.ownsRow w.heap.size 2 1 v 0 [] ∧ Below w.heap.size w w' := by
  obtain ⟨i0, hi, hz0, hz1, hz2⟩ := info_parts infoI64
  refine (Any8.slices_Grow_grow layGrow i0 (.int .i64 0) hi hz0 (by omega) none 0 0 n [] w (Nat.le_refl _) (by omega) (by rw [hz2]; omega) (by omega) (by simp) (fun _ => rfl) (fun a h => by cases h)).mono ?_
  rintro e w' ⟨rfl, rfl⟩
  rw [Nat.zero_add]
  have hge := grownCap_ge w n 0 2
  have hle := grownCap_le_maxLen w n 0 2 (by unfold maxLen; omega)
  refine ⟨_, rfl, ⟨rfl, .inr ⟨w.heap.size, grownCap w n 0 2, _, rfl, Nat.le_refl _, World.alloc_heap_new w.drew _, Nat.zero_le _, hle, ?_, rfl⟩⟩, ((Below.refl w.heap.size w).drew).alloc (Nat.le_refl _) _⟩
  have hzs : (Value.int .i64 0).cells.size = 1 := rfl
  simp only [Array.size_append, Builtin.zeroCells, Array.size_map, Array.size_range, hzs, Nat.mul_one, Nat.sub_zero]
  change 0 + n + (grownCap w n 0 2 - n) = grownCap w n 0 2
  omega

theorem news_row {W : World} {g : Nat} {L : List Int} (h : ∀ j (hj : j < L.length), W.cell? ⟨g, j, none⟩ = some (.int .i64 (L[j]'hj))) : ∀ j u, (L.map (Value.int .i64))[j]? = some u → W.cell? ((⟨g, 0, none⟩ : Addr).add j) = some u := by
  intro j u hj
  rw [List.getElem?_map] at hj
  obtain ⟨z, hz, rfl⟩ := Option.map_eq_some_iff.1 hj
  obtain ⟨h1, rfl⟩ := List.getElem?_eq_some_iff.1 hz
  have := h j h1
  by_cases e : j = 0
  · subst e; exact this
  · simpa [Addr.add, e] using this
theorem one_ints (L : List Int) : ∀ u ∈ L.map (Value.int .i64), u.oneCell' = true := by
  intro u hu
  obtain ⟨z, _, rfl⟩ := List.mem_map.1 hu
  rfl

set_option maxRecDepth 100000 in
set_option maxHeartbeats 4000000 in
theorem concat3_any (A B C : List Int) (gA gB gC cA cB cC g cg : Nat) (w : World) (lA : 0 < A.length) (hl : A.length + B.length + C.length ≤ 200)
    (wA : gA < w.heap.size) (wB : gB < w.heap.size) (wC : gC < w.heap.size) (wg : g < w.heap.size)
    (kA : ∀ j (hj : j < A.length), w.cell? ⟨gA, j, none⟩ = some (.int .i64 (A[j]'hj))) (kB : ∀ j (hj : j < B.length), w.cell? ⟨gB, j, none⟩ = some (.int .i64 (B[j]'hj))) (kC : ∀ j (hj : j < C.length), w.cell? ⟨gC, j, none⟩ = some (.int .i64 (C[j]'hj)))
    (c0 : w.cell? ⟨g, 0, none⟩ = some (.slice (some ⟨gA, 0, none⟩) A.length cA)) (c1 : w.cell? ⟨g, 1, none⟩ = some (.slice (some ⟨gB, 0, none⟩) B.length cB)) (c2 : w.cell? ⟨g, 2, none⟩ = some (.slice (some ⟨gC, 0, none⟩) C.length cC)) :
    Calls Try.prog 115 #[.slice (some ⟨g, 0, none⟩) 3 3] w fun e w' => ∃ v, e = .returned v ∧ OwnI w' w.heap.size v (A ++ (B ++ C)) ∧ Below w.heap.size w w' := by
  obtain ⟨i0, hi, hz0, hsz1, hz2⟩ := info_parts infoI64
  have KA := Lib.hid kA
  have KB := Lib.hid kB
  have KC := Lib.hid kC
  have G := Lib.hid (slicesGrow_nil (A.length + B.length + C.length) (by omega) (by omega))
  clear kA kB kC
  have hc2 : ((A.length + B.length + C.length : Nat) : Int) = (A.length : Int) + (B.length : Int) + (C.length : Int) := by omega
  rw [hc2] at G
  clear hc2
  go_enter Try.func115, Try.ntmps115
  go_wp2
  refine wp_loop_rounds 4 ?_
  rw [rounds_succ]
  go_wp2
  rw [rounds_succ]
  go_wp2
  rw [rounds_succ]
  go_wp2
  rw [rounds_succ]
  go_wp2_with (go_at_call 140; refine (G.out _).mono ?_; rintro e w1 ⟨v, rfl, hown, b1⟩)
  have d0 := ((bcell b1).1 g 0 wg).trans c0
  have d1 := ((bcell b1).1 g 1 wg).trans c1
  have d2 := ((bcell b1).1 g 2 wg).trans c2
  have hz1 := b1.size
  have HB1 := Lib.hid b1
  have hbig : w.heap.size ≤ w1.heap.size := b1.size
  clear c0 c1 c2 b1
  refine wp_loop_rounds 4 ?_
  rw [rounds_succ]
  go_wp2_with (at_builtin; refine wpList_append_own _ rfl _ _ 41 rfl w.heap.size 2 i0 (.int .i64 0) 1 8 Try.underlying41 hi hz0 hsz1 hz2 rfl (by decide) v 0 [] rfl hown ⟨gA, 0, none⟩ A.length cA (A.map (Value.int .i64)) rfl (by simp) (news_row fun j hj => ((bcell HB1.out).1 gA j wA).trans (KA.out j hj)) (one_ints A) (by unfold maxLen; omega) (by omega) hbig ?_; intro va wa hown1 hgr1 _)
  have far1 : ∀ q j, q < w.heap.size → wa.cell? ⟨q, j, none⟩ = w1.cell? ⟨q, j, none⟩ := fun q j hq => hgr1.cell_far ⟨q, j, none⟩ (by show q < _; omega) (fun e => by have := (hown.lt q e.symm).1; omega)
  have e1 := (far1 g 1 wg).trans d1
  have e2 := (far1 g 2 wg).trans d2
  have hB1 : Below w.heap.size w wa := HB1.out.grown hgr1 hbig (fun k e => (hown.lt k e).1)
  have HF1 := Lib.hid far1
  have HBa := Lib.hid hB1
  have hba := hB1.size
  clear d0 d1 d2 hown hgr1 far1 hB1
  rw [rounds_succ]
  go_wp2_with (at_builtin; refine wpList_append_own _ rfl _ _ 41 rfl w.heap.size 2 i0 (.int .i64 0) 1 8 Try.underlying41 hi hz0 hsz1 hz2 rfl (by decide) va (0 + A.length) ([] ++ A.map (Value.int .i64)) rfl hown1 ⟨gB, 0, none⟩ B.length cB (B.map (Value.int .i64)) rfl (by simp) (news_row fun j hj => ((bcell HBa.out).1 gB j wB).trans (KB.out j hj)) (one_ints B) (by unfold maxLen; omega) (by omega) hba ?_; intro vb wb hown2 hgr2 _)
  have far2 : ∀ q j, q < w.heap.size → wb.cell? ⟨q, j, none⟩ = wa.cell? ⟨q, j, none⟩ := fun q j hq => hgr2.cell_far ⟨q, j, none⟩ (by show q < _; omega) (fun e => by have := (hown1.lt q e.symm).1; omega)
  have f2 := (far2 g 2 wg).trans e2
  have hB2 : Below w.heap.size w wb := HBa.out.grown hgr2 hba (fun k e => (hown1.lt k e).1)
  have HBb := Lib.hid hB2
  have hbb := hB2.size
  clear e1 e2 hown1 hgr2 far2 hB2
  rw [rounds_succ]
  go_wp2_with (at_builtin; refine wpList_append_own _ rfl _ _ 41 rfl w.heap.size 2 i0 (.int .i64 0) 1 8 Try.underlying41 hi hz0 hsz1 hz2 rfl (by decide) vb (0 + A.length + B.length) ([] ++ A.map (Value.int .i64) ++ B.map (Value.int .i64)) rfl hown2 ⟨gC, 0, none⟩ C.length cC (C.map (Value.int .i64)) rfl (by simp) (news_row fun j hj => ((bcell HBb.out).1 gC j wC).trans (KC.out j hj)) (one_ints C) (by unfold maxLen; omega) (by omega) hbb ?_; intro vc wc hown3 hgr3 _)
  have hB3 : Below w.heap.size w wc := HBb.out.grown hgr3 hbb (fun k e => (hown2.lt k e).1)
  have HO3 := Lib.hid hown3
  clear f2 hown2 hgr3 hown3
  rw [rounds_succ]
  go_wp2
  go_ret
  refine ⟨_, rfl, ?_, hB3⟩
  unfold OwnI
  have h5 := HO3.out
  rw [List.nil_append, Nat.zero_add, ← List.map_append, ← List.map_append, List.append_assoc] at h5
  rw [List.length_append, List.length_append, ← Nat.add_assoc]
  exact h5

end Go.Proofs.Ytbhgghajbdlfkab
