/- The model's draw of letters' numbers. -/
import Derived.Test.YtlaefpmfbnldfabDrawInts
namespace Go.Proofs.Ytlaefpmfbnldfab
set_option linter.unusedVariables false
set_option linter.unusedSimpArgs false
open Go.RowKit

set_option maxRecDepth 100000 in
set_option maxHeartbeats 400000 in
theorem DrawWordOfLetters_any (a : Option Addr) (len cap : Nat) (zs : List Int) (w : World) (h : IsRow .u8 w a len cap zs) (hl : len ≤ 1048576) :
    Calls Try.prog 73 #[.slice a len cap] w (SomeL w) := by
  obtain ⟨i0, hi, hz0, hz1, hz2⟩ := info_parts infoI64
  have CF := Lib.hid (l01From_any a len cap zs w h hl)
  clear h
  go_enter Try.func73, Try.ntmps73
  go_wp2_with fail
  refine CF.out.mono ?_
  rintro e W0 ⟨rfl, s0, hB0⟩
  have HB0 := s0.ge
  have hl0 := s0.lt
  obtain ⟨V, hV⟩ : ∃ V, V = W0.alloc (.cells #[] 2) := ⟨_, rfl⟩
  have sv : Src w V w.heap.size := by rw [hV]; exact s0.below (Below.new _ _)
  have hBv : Below w.heap.size w V := by rw [hV]; exact hB0.alloc hB0.size _
  have ov : OwnI V (w.heap.size + 1) (.slice (some ⟨W0.heap.size, 0, none⟩) 0 0) [] := by rw [hV]; exact OwnI.lit0 _ (by omega)
  have hlv := sv.lt
  have hVs : V.heap.size = W0.heap.size + 1 := by rw [hV]; simp
  clear CF s0 hB0
  go_wp2_with fail
  rw [← hV]
  clear hV
  refine (l01Pick_any w _ w.heap.size _ [6, 20, 62] (sv.below (Below.new _ _)) (hBv.alloc hBv.size _) (by rw [World.size_alloc]; omega) (by omega) (by decide) (by decide) (fun j hj => by rw [← hVs]; exact cells_new_ints V [6, 20, 62] 2 j hj)).mono ?_
  rintro e W1 ⟨z, rfl, hz, s1, g1⟩
  have hz2' : 6 ≤ z ∧ z ≤ 62 := by simp at hz; omega
  have hB1 := below_src (hBv.alloc hBv.size _) HB0 g1
  have o1 := (ov.below (Below.new _ _)).src (by omega) g1
  have CN := Lib.hid (l01Next_i w W1 w.heap.size z s1 hB1 (by omega) (by omega))
  clear ov sv hBv g1 hz hlv
  go_wp2_with fail
  refine CN.out.mono ?_
  rintro e W2 ⟨n, rfl, n0, n1, s2, g2⟩
  have hB2 := below_src hB1 HB0 g2
  have o2 := o1.src (by omega) g2
  clear o1 s1 hB1 g2 CN
  have hl0' : n ≤ 61 := by omega
  go_wp2_with fail
  go_loopw [4, 5] (fun v i wr => ∃ (j : Nat) (L : List Int), j ≤ 61 ∧ i = .int .i64 (j : Int) ∧ L.length + j ≤ 61 ∧ OwnI wr (w.heap.size + 1) v L ∧ Src w wr w.heap.size ∧ Below w.heap.size w wr) (fun _ i _ => (intOf i).toNat)
  case atStart =>
    obtain ⟨j, rfl⟩ := Int.eq_ofNat_of_zero_le n0
    exact ⟨j, [], by omega, rfl, by simp; omega, o2, s2, hB2⟩
  case round =>
    obtain ⟨j, L, hj, rfl, hL, hown, hs, hB⟩ := hrel
    clear s2 hB2 o2 hl0' n0 n1
    by_cases hp : 0 < j
    · have hj5 : (0 : Int) < (j : Int) := by omega
      have CL := Lib.hid (l01Next_i w wr w.heap.size 5 hs hB (by omega) (by omega))
      have HO := Lib.hid hown
      clear hown hs
      go_wp2_with fail
      refine CL.out.mono ?_
      rintro e W2 ⟨z, rfl, z0, z1, s2, g2⟩
      have hown2 := HO.out.src (by omega) g2
      have hB2 := below_src hB HB0 g2
      have hbz2 := s2.lt
      clear CL HO g2 hB
      go_wp2_with (at_builtin; refine wpList_append_own _ rfl _ _ 30 rfl (w.heap.size + 1) 2 i0 (.int .i64 0) 1 8 Try.underlying30 hi hz0 hz1 hz2 rfl (by decide) _ _ _ rfl (hown2.alloc _) ⟨_, 0, none⟩ 1 1 [.int .i64 z] rfl rfl (cell_new _ _ _) (by intro u hu; simp at hu; subst hu; rfl) (by unfold maxLen; omega) (by omega) (by simp; omega) ?_; intro v' w3 hown' hgrow _)
      have hne := hown2.ne (b := w.heap.size) (by omega)
      have s3 := (s2.below (Below.new _ _)).grown hgrow hne
      have hB3 := (hB2.alloc hB2.size _).grown hgrow (by simp; omega) (fun q hq => Nat.le_of_succ_le (hown2.lt q hq).1)
      have hown3 : OwnI w3 (w.heap.size + 1) v' (L ++ [z]) := by unfold OwnI; rw [List.length_append, ← map_snoc]; exact hown'
      go_roundw
      case rel => exact ⟨j - 1, L ++ [z], by omega, by go_num, by simp; omega, hown3, s3, hB3⟩
      case measure => simp [intOf]; omega
    · have hj0 : ¬ (0 : Int) < (j : Int) := by omega
      by_cases hLe : L = []
      · subst hLe
        obtain ⟨a1, c1, rfl⟩ := hown.empty
        have HO := Lib.hid hown
        clear hown hs
        go_wp2_with fail
        go_ret
        exact ⟨_, [], rfl, HO.out.base (Nat.le_succ _), by simp, hB⟩
      · have hL0 : 0 < L.length := List.length_pos_iff.2 hLe
        obtain ⟨gv, cv, rfl, hgB, hgl, hcv, _, cell, fz⟩ := hown.row hL0
        have CM := Lib.hid (l01Next_i w wr w.heap.size 10 hs hB (by omega) (by omega))
        have HO := Lib.hid hown
        have hLi : (0 : Int) < (L.length : Int) := by omega
        clear hown cell fz hLe hs
        go_wp2_with fail
        refine CM.out.mono ?_
        rintro e W3 ⟨q, rfl, q0, q1, s3, g3⟩
        have hB3 := below_src hB HB0 g3
        have hown3 := HO.out.src (by omega) g3
        have hl3 := s3.lt
        have HO := Lib.hid hown3
        clear hown3 CM g3 hB
        by_cases hq : q = 0
        · subst hq
          have CK := Lib.hid (l01Next_i w W3 w.heap.size L.length s3 hB3 (by omega) (by omega))
          go_wp2_with fail
          refine CK.out.mono ?_
          rintro e W4 ⟨m0, rfl, m1, m2, s4, g4⟩
          have hB4 := below_src hB3 HB0 g4
          have hown4 := HO.out.src (by omega) g4
          have hl4 := s4.lt
          obtain ⟨m, rfl⟩ := Int.eq_ofNat_of_zero_le m1
          have HO := Lib.hid hown4
          clear hown4 CK g4 s3 hB3
          go_wp2_with fail
          refine (l01Pick_any w _ w.heap.size _ [-1, 5] (s4.below (Below.new _ _)) (hB4.alloc hB4.size _) (by simp) (by omega) (by decide) (by decide) (cells_new_ints W4 [-1, 5] _)).mono ?_
          rintro e W5 ⟨z, rfl, hz, s5, g5⟩
          have hz2 : -1 ≤ z ∧ z ≤ 5 := by simp at hz; omega
          have hB5 := below_src (hB4.alloc hB4.size _) HB0 g5
          have hown5 := (HO.out.below (Below.new _ _)).src (by omega) g5
          have hmL : m < L.length := by omega
          have k1 : W5.cell? ⟨gv, m, none⟩ = some (.int .i64 (L[m]'hmL)) := by rw [World.ownsRow.cellAt hown5 m (by simpa using hmL)]; simp [hmL]
          have k2 : W5.frozen? ⟨gv, m, none⟩ = false := World.ownsRow.frozenAt hown5 m
          have HF := Lib.hid (hown5.set m z)
          have hmc : m < cv := by omega
          have hB6 := hB5.setCell (p := ⟨gv, m, none⟩) (Nat.le_of_succ_le hgB) (.int .i64 z)
          generalize L[m]'hmL = y at k1
          clear hz HO hown5 g5
          go_wp2_with fail
          go_ret
          exact ⟨_, L.set m z, rfl, HF.out.base (Nat.le_succ _), by simp; omega, hB6⟩
        · go_wp2_with fail
          go_ret
          exact ⟨_, L, rfl, HO.out.base (Nat.le_succ _), by omega, hB3⟩

end Go.Proofs.Ytlaefpmfbnldfab
