/- The factor at a place; all factors at a place. -/
import Derived.Test.YtfipbnognjepkaaDoorTryF
namespace Go.Proofs.YtfipbnognjepkaaDoor
set_option linter.unusedVariables false
set_option linter.unusedSimpArgs false
open Go.RowKit

theorem make_row0 (n : Nat) (hn : n ≤ 60) (W : World) : (Instr.makeSlice 47 (.int .i64 0) (.int .i64 (n : Int))).run Tryd.prog W = .ok (.slice (some ⟨W.heap.size, 0, none⟩) 0 n) (W.alloc (.cells (madeCells #[.int .i64 0] n) 3)) := by
  obtain ⟨i0, hi, hz0, hz1, hz2⟩ := info_parts infoInt10
  have := run_make (P := Tryd.prog) W 47 3 i0 (.int .i64 0) Tryd.underlying47 hi hz0 .i64 .i64 0 n (by omega) (by omega) (by rw [hz2]; omega) (by omega)
  simpa [hz1, Value.cells] using this
theorem made_row0 (n : Nat) (hn : n ≤ 60) (W : World) : RowL (W.alloc (.cells (madeCells #[.int .i64 0] n) 3)) W.heap.size W.heap.size n [] :=
  ⟨rfl, .inr ⟨W.heap.size, n, _, rfl, Nat.le_refl _, alloc_at W _, Nat.zero_le _, by unfold maxLen; omega, by simpa using size_madeCells (#[Value.int .i64 0]) n, rfl⟩⟩
theorem lnF_nil (vs : List Nat) : lnF vs [] = fun _ => 0 := by funext v; unfold lnF; simp

set_option maxRecDepth 100000 in
set_option maxHeartbeats 4000000 in
theorem tryFactor_any (p : ByteArray) (hp : IsP p) (g cX : Nat) (X : List UInt8) (place left : Nat) (hXl : X.length ≤ 60) (hcX : X.length ≤ cX) (hpl : place + left ≤ X.length) (w : World) (hX : LettersAt w g X) :
    Calls Tryd.prog 143 #[srchV p (vsT (bl p)) g X.length cX, .int .i64 (place : Int), .int .i64 ((place : Int) + (left : Int))] w fun e w' =>
      FitEnd place g X (vsOf (bl p)) w.heap.size (fitL (X.drop place) (bl p) left) e w' ∧ Below w.heap.size w w' := by
  have hmo : Tryd.prog.follows .mixedOrders = true := by kernel_rfl
  have hk3 := vsOf_len (bl p)
  have hvt := vsT_size (bl p)
  have hg0 := hX.1
  have hne : vsOf (bl p) ≠ [] := fun e => by
    have h1 := vsOf_pos hp.list (bl_ne hp.1)
    rw [e] at h1; simp at h1
  have CL := Lib.hid (fun (W : World) (B b : Nat) (hb : g ≠ b) (h1 : LettersAt W g X) (h2 : RowL W B b (vsOf (bl p)).length []) => by
    have h := tryLengths_any p hp g cX X place hXl hcX B b hb (vsOf (bl p)) [] [] left W rfl rfl hne (fun n hn => by cases hn) (by rw [lnF_nil, totL_zero]; omega) h1 h2
    rw [lnF_nil] at h
    simp only [List.length_nil] at h
    exact h)
  have HVT : Hid ((vsT (bl p)).size = (vsOf (bl p)).length) := Lib.hid hvt
  have hmk := fun W => make_row0 (vsT (bl p)).size (by omega) W
  have hw2 : (place : Int) + (left : Int) - (place : Int) = (left : Int) := by omega
  have hw3 : IntKind.i64.wrap (left : Int) = (left : Int) := IntWalk.i64_in _ (by omega)
  have HX := Lib.hid hX
  clear hX hvt hne
  have HBX := Lib.hid (fun (W : World) (hb : Below (w.heap.size + 1) (w.alloc (.cells #[.string p, .string (vsT (bl p)), .slice (some ⟨g, 0, none⟩) X.length cX] 142)) W) => (BoxS.new w p (vsT (bl p)) (.slice (some ⟨g, 0, none⟩) X.length cX)).past hb (by omega))
  go_enter Tryd.func143, Tryd.ntmps143
  go_wp2_with fail
  refine wp_region_held_drew (S := fun W => BoxS W w.heap.size p (vsT (bl p)) (.slice (some ⟨g, 0, none⟩) X.length cX)) (by kernel_rfl) (HBX.out _ (Below.refl _ _).drew) (fun hH => ?_)
  refine wpAnyH_take (i := 0) (v := ?_) rfl (by kernel_rfl) (by kernel_rfl) (by kernel_rfl) (fun _ _ _ h => h) (Or.inl ⟨by rfl, ?_⟩) hH ?_
  rotate_left 1
  · intro w hSw; have k0 := BoxS.c0 hSw; have k1 := BoxS.c1 hSw; have k2 := BoxS.c2 hSw; go_simp <;> with_reducible rfl
  try simp only [List.getElem_toArray, List.getElem_cons_succ, List.getElem_cons_zero, Act.put, List.setIfInBounds_toArray, List.set_cons_zero, List.set_cons_succ]
  refine wpAnyH_take (i := 1) (v := ?_) rfl (by kernel_rfl) (by kernel_rfl) (by kernel_rfl) (fun _ _ _ h => h) (Or.inl ⟨by rfl, ?_⟩) hH ?_
  rotate_left 1
  · intro w hSw; have k0 := BoxS.c0 hSw; have k1 := BoxS.c1 hSw; have k2 := BoxS.c2 hSw; go_simp <;> with_reducible rfl
  try simp only [List.getElem_toArray, List.getElem_cons_succ, List.getElem_cons_zero, Act.put, List.setIfInBounds_toArray, List.set_cons_zero, List.set_cons_succ]
  refine wpAnyH_take (i := 2) (v := ?_) rfl (by kernel_rfl) (by kernel_rfl) (by kernel_rfl) (fun _ _ _ h => h) (Or.inl ⟨by rfl, ?_⟩) hH ?_
  rotate_left 1
  · intro w hSw; have k0 := BoxS.c0 hSw; have k1 := BoxS.c1 hSw; have k2 := BoxS.c2 hSw; go_simp <;> with_reducible rfl
  try simp only [List.getElem_toArray, List.getElem_cons_succ, List.getElem_cons_zero, Act.put, List.setIfInBounds_toArray, List.set_cons_zero, List.set_cons_succ]
  refine wpAnyH_take (i := 3) (v := ?_) rfl (by kernel_rfl) (by kernel_rfl) (by kernel_rfl) (fun _ _ _ h => h) (Or.inl ⟨by rfl, ?_⟩) hH ?_
  rotate_left 1
  · intro w hSw; have k0 := BoxS.c0 hSw; have k1 := BoxS.c1 hSw; have k2 := BoxS.c2 hSw; go_simp <;> with_reducible rfl
  try simp only [List.getElem_toArray, List.getElem_cons_succ, List.getElem_cons_zero, Act.put, List.setIfInBounds_toArray, List.set_cons_zero, List.set_cons_succ]
  refine wpAnyH_take (i := 4) (v := ?_) rfl (by kernel_rfl) (by kernel_rfl) (by kernel_rfl) (fun _ _ _ h => h) (Or.inl ⟨by rfl, ?_⟩) hH ?_
  rotate_left 1
  · intro w hSw; have k0 := BoxS.c0 hSw; have k1 := BoxS.c1 hSw; have k2 := BoxS.c2 hSw; go_simp <;> with_reducible rfl
  try simp only [List.getElem_toArray, List.getElem_cons_succ, List.getElem_cons_zero, Act.put, List.setIfInBounds_toArray, List.set_cons_zero, List.set_cons_succ]
  refine wpAnyH_take (i := 5) (v := ?_) rfl (by kernel_rfl) (by kernel_rfl) (by kernel_rfl) (fun _ _ _ h => h) (Or.inl ⟨by rfl, ?_⟩) hH ?_
  rotate_left 1
  · intro w hSw; have k0 := BoxS.c0 hSw; have k1 := BoxS.c1 hSw; have k2 := BoxS.c2 hSw; go_simp <;> with_reducible rfl
  try simp only [List.getElem_toArray, List.getElem_cons_succ, List.getElem_cons_zero, Act.put, List.setIfInBounds_toArray, List.set_cons_zero, List.set_cons_succ]
  refine wpAnyH_take (i := 6) (v := ?_) rfl (by kernel_rfl) (by kernel_rfl) (by kernel_rfl) (fun _ _ _ h => h) (Or.inl ⟨by rfl, ?_⟩) hH ?_
  rotate_left 1
  · intro w hSw; have k0 := BoxS.c0 hSw; have k1 := BoxS.c1 hSw; have k2 := BoxS.c2 hSw; go_simp <;> with_reducible rfl
  try simp only [List.getElem_toArray, List.getElem_cons_succ, List.getElem_cons_zero, Act.put, List.setIfInBounds_toArray, List.set_cons_zero, List.set_cons_succ]
  refine wpAnyH_take (i := 7) (v := ?_) rfl (by kernel_rfl) (by kernel_rfl) (by kernel_rfl) (fun _ _ _ h => h) (Or.inl ⟨by rfl, ?_⟩) hH ?_
  rotate_left 1
  · intro w hSw; have k0 := BoxS.c0 hSw; have k1 := BoxS.c1 hSw; have k2 := BoxS.c2 hSw; go_simp <;> with_reducible rfl
  try simp only [List.getElem_toArray, List.getElem_cons_succ, List.getElem_cons_zero, Act.put, List.setIfInBounds_toArray, List.set_cons_zero, List.set_cons_succ]
  obtain ⟨W1, hW1⟩ : ∃ W1, (w.alloc (.cells #[.string p, .string (vsT (bl p)), .slice (some ⟨g, 0, none⟩) X.length cX] 142)).drew = W1 := ⟨_, rfl⟩
  have hB1 : Below w.heap.size w W1 := by rw [← hW1]; exact (Below.new w _).drew
  have hs1 : w.heap.size < W1.heap.size := by rw [← hW1]; simp
  rw [hW1] at hH ⊢
  have HW1 := Lib.hid hW1
  clear hW1
  refine wpAnyH_ready (rs := [8]) (by kernel_rfl) (by simp) ?_
  refine AllReadyH.cons rfl (fun K hK => ?_) AllReadyH.nil
  go_simp
  have hH2 : BoxS (W1.alloc (.cells (madeCells #[.int .i64 0] (vsT (bl p)).size) 3)) w.heap.size p (vsT (bl p)) (.slice (some ⟨g, 0, none⟩) X.length cX) := hH.past (Below.new W1 _) hs1
  refine hK.out _ _ hH2 (fun _ => ?_)
  clear hK K
  try simp only [List.getElem_toArray, List.getElem_cons_succ, List.getElem_cons_zero, Act.put, List.setIfInBounds_toArray, List.set_cons_zero, List.set_cons_succ]
  have hrow := made_row0 (vsT (bl p)).size (by rw [HVT.out]; omega) W1
  have hbt : Below w.heap.size w (W1.alloc (.cells (madeCells #[.int .i64 0] (vsT (bl p)).size) 3)) := hB1.alloc (by omega) _
  have hX2 := HX.out.past hbt
  rw [HVT.out] at hrow hX2 hH2 hbt
  rw [HVT.out]
  refine wpAnyH_ready (rs := [9]) (by kernel_rfl) (by simp) ?_
  refine AllReadyH.cons rfl (fun K hK => ?_) AllReadyH.nil
  go_simp
  (with_reducible refine (CL.out _ _ _ (by omega) hX2 hrow).mono ?_)
  rintro e w3 ⟨hfe, hgr, hrow4⟩
  have hb3 : Below w.heap.size w w3 := hbt.grown hgr (by simp; omega) (fun q hq => by cases hq; omega)
  have hs3 : w.heap.size ≤ (W1.alloc (.cells (madeCells #[.int .i64 0] (vsOf (bl p)).length) 3)).heap.size := by simp; omega
  cases hgv : srch (X.drop place) (bl p) (vsOf (bl p)) (fun _ => 0) left with
  | none =>
    rw [hgv] at hfe
    obtain rfl : e = .returned (.tuple #[]) := hfe
    have hH4 := BoxS.kept hH2 hgr (by omega)
    have HGV := Lib.hid hgv
    clear hgv
    go_wp2_with fail
    refine hK.out _ _ hH4 (fun _ => ?_)
    clear hK K
    refine wpAnyH_done (by kernel_rfl) ?_ _
    go_wp2_with fail
    go_end0
    exact ⟨by unfold fitL; rw [HGV.out]; rfl, hb3⟩
  | some W =>
    rw [hgv] at hfe
    obtain ⟨v1, rfl, hown3⟩ := hfe
    have HGV := Lib.hid hgv
    clear hgv
    go_wp2_with fail
    exact ⟨rfl, by unfold fitL; rw [HGV.out]; exact FitEnd.base (r := some W) ⟨v1, rfl, hown3⟩ hs3, hb3⟩

def NoneAt {β : Type} (F : Nat → Option β) (m : Nat) : Prop := ∀ k, k < m → F k = none
theorem pffAt_none {X P : List UInt8} {place : Nat} (h : ∀ k, place + P.length + k ≤ X.length → fitL (X.drop place) P (P.length + k) = none) : pffAt X P place = none := by
  unfold pffAt
  refine rseek_none fun k hk => ?_
  rw [h k (by omega)]; rfl
theorem pffAt_some {X P : List UInt8} {place k : Nat} {W : Nat → List UInt8} (h0 : ∀ j, j < k → fitL (X.drop place) P (P.length + j) = none) (hk : place + P.length + k ≤ X.length) (h : fitL (X.drop place) P (P.length + k) = some W) : pffAt X P place = some (place, W) := by
  unfold pffAt
  refine rseek_at (j := k) (fun j hj => by rw [h0 j hj]; rfl) (by omega) (by rw [h]; rfl)

set_option maxRecDepth 100000 in
set_option maxHeartbeats 4000000 in
theorem tryPlace_any (p : ByteArray) (hp : IsP p) (g cX : Nat) (X : List UInt8) (place : Nat) (hXl : X.length ≤ 60) (hcX : X.length ≤ cX) (hpl : place ≤ X.length) (w : World) (hX : LettersAt w g X) :
    Calls Tryd.prog 136 #[srchV p (vsT (bl p)) g X.length cX, .int .i64 (place : Int)] w fun e w' =>
      FitEnd place g X (vsOf (bl p)) w.heap.size ((pffAt X (bl p) place).map (·.2)) e w' ∧ Below w.heap.size w w' := by
  have hp8 := hp.2.1
  have HX := Lib.hid hX
  have CF := Lib.hid (fun (W : World) (left : Nat) (h : place + left ≤ X.length) (hB : Below w.heap.size w W) => tryFactor_any p hp g cX X place left hXl hcX h W (hX.past hB))
  have HPL : Hid ((bl p).length = p.size) := Lib.hid (bl_len p)
  clear hX
  go_enter Tryd.func136, Tryd.ntmps136
  go_wp2_with fail
  go_loopw [4] (fun s4 wr => ∃ k : Nat, k ≤ X.length + 1 ∧ s4 = .int .i64 ((place + p.size + k : Nat) : Int) ∧ NoneAt (fun j => fitL (X.drop place) (bl p) ((bl p).length + j)) k ∧ Below w.heap.size w wr ∧ BoxS wr w.heap.size p (vsT (bl p)) (.slice (some ⟨g, 0, none⟩) X.length cX))
    (fun s4 _ => place + p.size + X.length + 1 - (intOf s4).toNat)
  case atStart => exact ⟨0, Nat.zero_le _, by go_num, fun j hj => by omega, Below.new _ _, BoxS.new w _ _ _⟩
  case round =>
    obtain ⟨k, hk, rfl, hno, hB, hbx⟩ := hrel
    have k0 := hbx.c0
    have k1 := hbx.c1
    have k2 := hbx.c2
    have HNO := Lib.hid hno
    have HBX := Lib.hid hbx
    have hlt := hbx.lt
    clear hno hbx
    by_cases hle : place + p.size + k ≤ X.length
    · have hcast : ((place + p.size + k : Nat) : Int) = (place : Int) + ((p.size + k : Nat) : Int) := by omega
      have CF2 := CF.out wr (p.size + k) (by omega) hB
      rw [← hcast] at CF2
      have HCF := Lib.hid CF2
      have hfl : fitL (X.drop place) (bl p) ((bl p).length + k) = fitL (X.drop place) (bl p) (p.size + k) := by rw [HPL.out]
      have HFL := Lib.hid hfl
      have hbz := hB.size
      clear CF2 hfl hcast
      cases hgv : fitL (X.drop place) (bl p) (p.size + k) with
      | none =>
        rw [hgv] at HCF
        have HGV := Lib.hid hgv
        clear hgv
        go_wp2_with (go_at_call 143; refine HCF.out.mono ?_; rintro e w1 ⟨he, b1⟩; obtain rfl : e = .returned (.tuple #[]) := he)
        go_roundw
        case rel => exact ⟨k + 1, by omega, by go_num, fun j hj => by
          by_cases e : j < k
          · exact HNO.out j e
          · rw [show j = k by omega]; exact HFL.out.trans HGV.out, hB.then b1, HBX.out.past b1 hlt⟩
        case measure => simp [intOf]; omega
      | some W =>
        rw [hgv] at HCF
        have HGV := Lib.hid hgv
        clear hgv
        go_wp2_with (go_at_call 143; refine HCF.out.mono ?_; rintro e w1 ⟨he, b1⟩; obtain ⟨v1, rfl, hown⟩ := he)
        refine ⟨rfl, ?_, hB.then b1⟩
        rw [pffAt_some HNO.out (by rw [HPL.out]; exact hle) (HFL.out.trans HGV.out)]
        exact FitEnd.base (r := some W) ⟨v1, rfl, hown⟩ hbz
    · have hend : pffAt X (bl p) place = none := pffAt_none (fun j hj => HNO.out j (by rw [HPL.out] at hj; omega))
      have HEND := Lib.hid hend
      clear hend
      go_wp2_with fail
      go_end0
      exact ⟨by rw [HEND.out]; rfl, hB⟩

end Go.Proofs.YtfipbnognjepkaaDoor
