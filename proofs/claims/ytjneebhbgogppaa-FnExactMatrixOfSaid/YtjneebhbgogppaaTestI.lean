/- Test lengths: the program. -/
import Derived.Test.YtjneebhbgogppaaLens
import Derived.Test.YtjneebhbgogppaaTestPlain
import Derived.Test.YtjneebhbgogppaaShelf
namespace Go.Proofs.Ytjneebhbgogppaa
set_option linter.unusedVariables false
set_option linter.unusedSimpArgs false
open Go.RowKit

theorem slice5 (b m : Nat) (hm : m ≤ 5) (W : World) : (Instr.sliceAt 73 (.pointer (some ⟨b, 0, none⟩)) none (some (.int .i64 (m : Int))) none).run Try.prog W = .ok (.slice (some ⟨b, 0, none⟩) m 5) W := by
  obtain ⟨i0, hi, _, hs, _⟩ := info_parts infoI64
  have ha : Try.prog.arrayLen 73 = 5 := by kernel_rfl
  have he : Try.prog.elem 73 = 2 := by kernel_rfl
  rw [run_sliceAt_array_h W 73 ⟨b, 0, none⟩ (by rw [ha, he]; exact Try.underlying73) .i64 (m : Int) (by omega) (by rw [ha]; omega), he, run_sizeOf W hi, ha, show Try.prog.cellsOf 2 = 1 by kernel_rfl]
  simp [slicedAt, Addr.add]

set_option maxRecDepth 100000 in
set_option maxHeartbeats 1000000 in
theorem impl_TestLength (B : Nat) (v : Value) (I : List (List UInt8)) (w : World) (h : OwnS w B v (I.map bt)) (t : Tot I) :
    Calls Try.prog 45 #[.agg #[v]] w fun e w' => e = .returned (.tuple #[.int .i64 (tlR I).1, .int .i64 (tlR I).2]) ∧ Below w.heap.size w w' := by
  obtain ⟨p, c, hv⟩ := ownS_value h
  rw [List.length_map] at hv
  subst hv
  have hI := t.1
  have BN : Below w.heap.size w (w.alloc (.cells #[.slice p I.length c] 27)) := Below.new _ _
  have QN : Boxed (w.alloc (.cells #[.slice p I.length c] 27)) w.heap.size 27 (.slice p I.length c) := Boxed.new _ _ _
  have HBN := Lib.hid BN
  have HQN := Lib.hid QN
  have H := Lib.hid (h.below BN)
  clear BN QN h
  by_cases g : Mor I
  · have h1 := g.len1
    have h5 := g.len5
    have c1 := fun W h => isMor_yes B (.slice p I.length c) I W h g
    have c2 := fun W h => lettersOf_any B (.slice p I.length c) I W h g
    have hF : ∀ j, j < I.length → lenF I I.length j = il I j := fun j hj => by unfold lenF; rw [if_pos hj]
    generalize lenF I I.length = F at *
    have HMIN := Lib.hid (min_lens g F hF)
    have HMAX := Lib.hid (max_lens g F hF)
    have ha12 := mnL_le g (I.length - 1)
    have hb12 := mxL_le g (I.length - 1)
    have hab := mn_mx I (I.length - 1)
    have HT1 := Lib.hid (tlR_none g)
    have HT2 := Lib.hid (tlR_ok g)
    obtain ⟨R, hR⟩ : ∃ R, tlR I = R := ⟨_, rfl⟩
    rw [hR]
    have HR := Lib.hid hR
    have C1 := Lib.hid c1
    have C2 := Lib.hid c2
    generalize mnL I (I.length - 1) = a at *
    generalize mxL I (I.length - 1) = b at *
    clear hR
    by_cases h0 : a = 0
    · have HV := Lib.hid (HR.out.symm.trans (HT1.out h0))
      subst h0
      clear c1 c2 g hF
      go_enter Try.func45, Try.ntmps45
      go_wp2_with fail
      refine (C1.out _ H.out).mono ?_
      rintro e w1 ⟨rfl, b1⟩
      have q1 := boxed_later HQN.out b1
      have kq := q1.cell
      have B1 := HBN.out.then b1
      go_wp2_with fail
      refine (C2.out _ (H.out.below b1)).mono ?_
      rintro e w2 ⟨rfl, b2⟩
      have q2 := boxed_later q1 b2
      have B2 := B1.then b2
      obtain ⟨W3, hW3⟩ : ∃ W3 : World, W3 = w2.alloc (.cells #[.int .i64 (F 0 : Int), .int .i64 (F 1 : Int), .int .i64 (F 2 : Int), .int .i64 (F 3 : Int), .int .i64 (F 4 : Int)] 73) := ⟨_, rfl⟩
      have a3 : Arr5 W3 w2.heap.size F := by rw [hW3]; exact Arr5.new _ _
      have B3 : Below w.heap.size w W3 := by rw [hW3]; exact B2.alloc B2.size _
      have hc3 : ∀ j, j < (L5 F).length → W3.cell? ⟨w2.heap.size, 0 + j, none⟩ = some (.int .i64 ((L5 F).getD j 0)) := fun j hj => by
        have h5 : j < 5 := hj
        rw [Nat.zero_add, a3.cell j h5]
        rcases (show j = 0 ∨ j = 1 ∨ j = 2 ∨ j = 3 ∨ j = 4 by omega) with rfl | rfl | rfl | rfl | rfl <;> rfl
      have cmin := Try.slices_Min_int w2.heap.size 0 I.length 5 (L5 F) W3 (by omega) h5 (by omega) hc3
      have cmax := Try.slices_Max_int w2.heap.size 0 I.length 5 (L5 F) W3 (by omega) h5 (by omega) hc3
      rw [HMIN.out] at cmin
      rw [HMAX.out] at cmax
      have CMIN := Lib.hid cmin
      have CMAX := Lib.hid cmax
      have HW3 := Lib.hid hW3
      have kq3 : W3.cell? ⟨w.heap.size, 0, none⟩ = some (.slice p I.length c) := by rw [hW3]; exact (q2.alloc _).cell
      have kq2 := q2.cell
      have hlt := q2.lt
      have hne1 : ¬ w.heap.size = w2.heap.size := by omega
      have hsl := fun W => slice5 w2.heap.size I.length h5 W
      clear hW3 q1 q2 b1 b2 B1 B2 a3 hc3 cmin cmax kq
      go_wp2_with fail
      rw [← HW3.out]
      refine CMIN.out.mono ?_
      rintro e w4 ⟨rfl, rfl⟩
      go_wp2_with fail
      refine CMAX.out.mono ?_
      rintro e w5 ⟨rfl, rfl⟩
      go_wp2_with fail
      go_ret2
      exact ⟨by rw [HV.out]; rfl, B3⟩
    · have HV := Lib.hid (HR.out.symm.trans (HT2.out h0))
      by_cases h4 : 4 ≤ a + b
      · have HE := Lib.hid (tlN_impl h0 hab h4)
        have ha1 : 0 < a := by omega
        have hn0 : 0 ≤ (b : Int) - 3 + (a : Int) - 1 := by omega
        have hq0 : 0 ≤ ((b : Int) - 3 + (a : Int) - 1) / (a : Int) := Int.ediv_nonneg hn0 (by omega)
        have hq : ((b : Int) - 3 + (a : Int) - 1) / (a : Int) ≤ 20 := by
          refine Int.ediv_le_of_le_mul (by omega) ?_
          have : (1 : Int) * 20 ≤ (a : Int) * 20 := Int.mul_le_mul_of_nonneg_right (by omega) (by omega)
          omega
        have ha0 : ¬ (a : Int) = 0 := by omega
        clear h0 HT1 HT2 HR
        clear c1 c2 g hF
        go_enter Try.func45, Try.ntmps45
        go_wp2_with fail
        refine (C1.out _ H.out).mono ?_
        rintro e w1 ⟨rfl, b1⟩
        have q1 := boxed_later HQN.out b1
        have kq := q1.cell
        have B1 := HBN.out.then b1
        go_wp2_with fail
        refine (C2.out _ (H.out.below b1)).mono ?_
        rintro e w2 ⟨rfl, b2⟩
        have q2 := boxed_later q1 b2
        have B2 := B1.then b2
        obtain ⟨W3, hW3⟩ : ∃ W3 : World, W3 = w2.alloc (.cells #[.int .i64 (F 0 : Int), .int .i64 (F 1 : Int), .int .i64 (F 2 : Int), .int .i64 (F 3 : Int), .int .i64 (F 4 : Int)] 73) := ⟨_, rfl⟩
        have a3 : Arr5 W3 w2.heap.size F := by rw [hW3]; exact Arr5.new _ _
        have B3 : Below w.heap.size w W3 := by rw [hW3]; exact B2.alloc B2.size _
        have hc3 : ∀ j, j < (L5 F).length → W3.cell? ⟨w2.heap.size, 0 + j, none⟩ = some (.int .i64 ((L5 F).getD j 0)) := fun j hj => by
          have h5 : j < 5 := hj
          rw [Nat.zero_add, a3.cell j h5]
          rcases (show j = 0 ∨ j = 1 ∨ j = 2 ∨ j = 3 ∨ j = 4 by omega) with rfl | rfl | rfl | rfl | rfl <;> rfl
        have cmin := Try.slices_Min_int w2.heap.size 0 I.length 5 (L5 F) W3 (by omega) h5 (by omega) hc3
        have cmax := Try.slices_Max_int w2.heap.size 0 I.length 5 (L5 F) W3 (by omega) h5 (by omega) hc3
        rw [HMIN.out] at cmin
        rw [HMAX.out] at cmax
        have CMIN := Lib.hid cmin
        have CMAX := Lib.hid cmax
        have HW3 := Lib.hid hW3
        have kq3 : W3.cell? ⟨w.heap.size, 0, none⟩ = some (.slice p I.length c) := by rw [hW3]; exact (q2.alloc _).cell
        have kq2 := q2.cell
        have hlt := q2.lt
        have hne1 : ¬ w.heap.size = w2.heap.size := by omega
        have hsl := fun W => slice5 w2.heap.size I.length h5 W
        clear hW3 q1 q2 b1 b2 B1 B2 a3 hc3 cmin cmax kq
        go_wp2_with fail
        rw [← HW3.out]
        refine CMIN.out.mono ?_
        rintro e w4 ⟨rfl, rfl⟩
        go_wp2_with fail
        refine CMAX.out.mono ?_
        rintro e w5 ⟨rfl, rfl⟩
        go_wp2_with fail
        go_ret2
        exact ⟨by rw [HV.out]; show _ = Ending.returned (.tuple #[.int .i64 ((tlN a b : Nat) : Int), .int .i64 0]); rw [HE.out]; rfl, B3⟩
      · obtain ⟨e3, rfl, hb⟩ := tlN_small h0 hab h4
        have HV2 : Hid (R = (3, 0)) := Lib.hid (by rw [HV.out, e3]; rfl)
        clear h0 HT1 HT2 HR e3 HV h4
        rcases hb with rfl | rfl
        all_goals
          clear c1 c2 g hF
          go_enter Try.func45, Try.ntmps45
          go_wp2_with fail
          refine (C1.out _ H.out).mono ?_
          rintro e w1 ⟨rfl, b1⟩
          have q1 := boxed_later HQN.out b1
          have kq := q1.cell
          have B1 := HBN.out.then b1
          go_wp2_with fail
          refine (C2.out _ (H.out.below b1)).mono ?_
          rintro e w2 ⟨rfl, b2⟩
          have q2 := boxed_later q1 b2
          have B2 := B1.then b2
          obtain ⟨W3, hW3⟩ : ∃ W3 : World, W3 = w2.alloc (.cells #[.int .i64 (F 0 : Int), .int .i64 (F 1 : Int), .int .i64 (F 2 : Int), .int .i64 (F 3 : Int), .int .i64 (F 4 : Int)] 73) := ⟨_, rfl⟩
          have a3 : Arr5 W3 w2.heap.size F := by rw [hW3]; exact Arr5.new _ _
          have B3 : Below w.heap.size w W3 := by rw [hW3]; exact B2.alloc B2.size _
          have hc3 : ∀ j, j < (L5 F).length → W3.cell? ⟨w2.heap.size, 0 + j, none⟩ = some (.int .i64 ((L5 F).getD j 0)) := fun j hj => by
            have h5 : j < 5 := hj
            rw [Nat.zero_add, a3.cell j h5]
            rcases (show j = 0 ∨ j = 1 ∨ j = 2 ∨ j = 3 ∨ j = 4 by omega) with rfl | rfl | rfl | rfl | rfl <;> rfl
          have cmin := Try.slices_Min_int w2.heap.size 0 I.length 5 (L5 F) W3 (by omega) h5 (by omega) hc3
          have cmax := Try.slices_Max_int w2.heap.size 0 I.length 5 (L5 F) W3 (by omega) h5 (by omega) hc3
          rw [HMIN.out] at cmin
          rw [HMAX.out] at cmax
          have CMIN := Lib.hid cmin
          have CMAX := Lib.hid cmax
          have HW3 := Lib.hid hW3
          have kq3 : W3.cell? ⟨w.heap.size, 0, none⟩ = some (.slice p I.length c) := by rw [hW3]; exact (q2.alloc _).cell
          have kq2 := q2.cell
          have hlt := q2.lt
          have hne1 : ¬ w.heap.size = w2.heap.size := by omega
          have hsl := fun W => slice5 w2.heap.size I.length h5 W
          clear hW3 q1 q2 b1 b2 B1 B2 a3 hc3 cmin cmax kq
          go_wp2_with fail
          rw [← HW3.out]
          refine CMIN.out.mono ?_
          rintro e w4 ⟨rfl, rfl⟩
          go_wp2_with fail
          refine CMAX.out.mono ?_
          rintro e w5 ⟨rfl, rfl⟩
          go_wp2_with fail
          go_ret2
          exact ⟨by rw [HV2.out]; rfl, B3⟩
  · rw [tlR_bad g]
    have c1 := fun W h => isMor_no B (.slice p I.length c) I W h t g
    have C1 := Lib.hid c1
    clear c1 g
    go_enter Try.func45, Try.ntmps45
    go_wp2_with fail
    refine (C1.out _ H.out).mono ?_
    rintro e w1 ⟨rfl, b1⟩
    have B1 := HBN.out.then b1
    go_wp2_with fail
    go_ret2
    exact ⟨rfl, B1⟩
end Go.Proofs.Ytjneebhbgogppaa
