/- For every bytes: the numbers of factors, special factors, edges and cycles hang together, as the model tells. No condition. -/
import Derived.Test.YtbhgghajbdlfkabGreatW8
import Derived.Test.YtbhgghajbdlfkabGreatFnNumPlain
import Derived.Test.YtbhgghajbdlfkabGreatBis
import Derived.Test.YtbhgghajbdlfkabGreatEdgeS
import Derived.Test.YtbhgghajbdlfkabGreatCxS
import Derived.Test.YtbhgghajbdlfkabGreatHeS
import Derived.Test.YtbhgghajbdlfkabGreatFactorsI
import Derived.Test.YtbhgghajbdlfkabGreatLike
import Derived.Deep.Cut
import Derived.Deep.CutRange
import Derived.Test.YtbhgghajbdlfkabGreatRows
import Derived.WalkKit
import Derived.ProofKit
import Derived.OpenShut
import Derived.ShutString
import Derived.ChangeOld
import Derived.Below
import Derived.HandedShaped
namespace Go.Proofs.YtbhgghajbdlfkabGreat.fnFactorNumbers
open Go.ChangeShapes Go.WideShapes Go.ChangeAt Go.RowKit
open Go.ChangeMaps (open_string shut_string)
set_option linter.unusedVariables false
set_option linter.unusedSimpArgs false

theorem take_sum (L : List Int) (k : Nat) (h : k < L.length) : (L.take (k + 1)).sum = (L.take k).sum + L[k]'h := by
  rw [List.take_succ_eq_append_getElem h, List.sum_append]
  simp
theorem take_sum_bd {L : List Int} (h : ∀ z ∈ L, 0 ≤ z ∧ z ≤ 100) : ∀ k, k ≤ L.length → 0 ≤ (L.take k).sum ∧ (L.take k).sum ≤ 100 * k
  | 0, _ => by simp
  | k + 1, hk => by
    have h1 := take_sum_bd h k (by omega)
    have h2 := h _ (List.getElem_mem (show k < L.length by omega))
    rw [take_sum L k (by omega)]
    omega
set_option maxRecDepth 100000 in
theorem sum_same (g c : Nat) (L : List Int) (w : World) (hc : L.length ≤ c) (C : Hid (∀ j (hj : j < L.length), w.cell? ⟨g, j, none⟩ = some (.int .i64 (L[j]'hj)))) (hb : ∀ z ∈ L, 0 ≤ z ∧ z ≤ 100) (hl : L.length ≤ 1000) :
    Calls Tryz.prog 27 #[.slice (some ⟨g, 0, none⟩) L.length c] w fun e w' => e = .returned (.int .i64 L.sum) ∧ w' = w := by
  have HB := Lib.hid hb
  clear hb
  go_enter Tryz.func27, Tryz.ntmps27
  go_wp2
  go_loopw [3, 4] (fun s i wr => ∃ k : Nat, k ≤ L.length ∧ s = .int .i64 (L.take k).sum ∧ i = .int .i64 k ∧ wr = w) (fun _ i _ => L.length - (intOf i).toNat)
  case atStart => exact ⟨0, Nat.zero_le _, by simp, rfl, rfl⟩
  case round =>
    obtain ⟨k, hk, rfl, rfl, rfl⟩ := hrel
    have bd := take_sum_bd HB.out k hk
    by_cases hp : k < L.length
    · have k1 := C.out k hp
      have hs := take_sum L k hp
      have bd2 := HB.out _ (List.getElem_mem hp)
      have hpc : k < c := by omega
      have HS := Lib.hid hs
      clear hs
      generalize (L.take k).sum = s1 at bd HS ⊢
      generalize L[k]'hp = z at k1 bd2 HS
      go_wp2
      go_roundw
      case rel => exact ⟨k + 1, by omega, by rw [HS.out], by go_num, by first | rfl | trivial⟩
      case measure => simp [intOf]; omega
    · have hke : L.take k = L := List.take_of_length_le (by omega)
      rw [hke]
      rw [hke] at bd
      go_wp2
      go_ret
      exact ⟨rfl, rfl⟩

theorem lookS {w : World} {B : Nat} {v : Value} {L : List ByteArray} (h : OwnS w B v L) : ∃ ad cap, v = .slice ad L.length cap := by
  obtain ⟨ad, cap, e, _⟩ := OwnS.lookH h
  exact ⟨ad, cap, e⟩
theorem lookR {w : World} {B : Nat} {v : Value} {L : List (List Int)} (h : OwnR w B v L) : ∃ ad cap, v = .slice ad L.length cap ∧ ∀ k, k < L.length → ∃ g u, ad = some ⟨g, 0, none⟩ ∧ g < w.heap.size ∧ k < cap ∧ w.cell? ⟨g, k, none⟩ = some u ∧ OwnI w B u (L.getD k []) := by
  by_cases h0 : 0 < L.length
  · obtain ⟨g, cap, us, rfl, _, hg, hc, _, cell, r, _⟩ := h.row h0
    exact ⟨_, cap, rfl, fun k hk => ⟨g, _, rfl, hg, by omega, cell k hk, r.2.1 k (by rw [r.1]; exact hk)⟩⟩
  · obtain ⟨a, c, rfl⟩ := h.value
    exact ⟨a, c, rfl, fun k hk => by omega⟩
def bl (N : Nat) (G : Nat → Nat) : List Int := (List.range N).map fun i => (G i : Int)
theorem bl_get (N : Nat) (G : Nat → Nat) (i : Nat) (h : i < N) : (bl N G)[i]? = some (G i : Int) := by simp [bl, h]
theorem bl_len (N : Nat) (G : Nat → Nat) : (bl N G).length = N := by simp [bl]
abbrev TabB (W : World) (g N : Nat) (G : Nat → Nat) : Prop := W.ownsRow g 2 1 (.slice (some ⟨g, 0, none⟩) N N) N ((bl N G).map (Value.int .i64))
theorem TabB.get {W : World} {g N i : Nat} {G : Nat → Nat} (h : TabB W g N G) (hi : i < N) : W.cell? ⟨g, i, none⟩ = some (.int .i64 (G i : Int)) := by
  rw [h.cellAt i (by omega), List.getElem?_map, bl_get N G i hi]
  rfl
theorem TabB.put {W : World} {g N a v : Nat} {G H : Nat → Nat} (h : TabB W g N G) (e : ∀ i, i < N → H i = if i = a then v else G i) : TabB (W.setCell ⟨g, a, none⟩ (.int .i64 (v : Int))) g N H := by
  have := (h.stored a (.int .i64 (v : Int))).1
  rwa [show ((bl N G).map (Value.int .i64)).set a (.int .i64 (v : Int)) = (bl N H).map (Value.int .i64) by
    apply List.ext_getElem?
    intro i
    rw [List.getElem?_set]
    by_cases hi : i < N
    · rw [List.getElem?_map, List.getElem?_map, bl_get N H i hi, bl_get N G i hi, e i hi]
      by_cases q : a = i
      · subst q; rw [if_pos rfl, if_pos rfl, if_pos (by rw [List.length_map, bl_len]; exact hi)]; rfl
      · rw [if_neg q, if_neg (fun q2 => q q2.symm)]
    · rw [List.getElem?_eq_none (l := (bl N G).map _) (by rw [List.length_map, bl_len]; omega), List.getElem?_eq_none (l := (bl N H).map _) (by rw [List.length_map, bl_len]; omega)]
      split
      · split
        · rename_i q; rw [List.length_map, bl_len] at q; omega
        · rfl
      · rfl] at this
theorem TabB.zero {W : World} {g N : Nat} {G : Nat → Nat} (h : W.ownsRow g 2 1 (.slice (some ⟨g, 0, none⟩) N N) N (madeCells (Value.int .i64 0).cells (N * 1)).toList) (e : ∀ i, G i = 0) : TabB W g N G := by
  rw [show (Value.int .i64 0).cells = #[Value.int .i64 0] from rfl, toList_madeCells_one, Nat.mul_one] at h
  unfold TabB
  rw [show (bl N G).map (Value.int .i64) = List.replicate N (.int .i64 0) by
    apply List.ext_getElem?
    intro i
    by_cases hi : i < N
    · rw [List.getElem?_map, bl_get N G i hi, List.getElem?_replicate, if_pos hi, e i]; rfl
    · rw [List.getElem?_eq_none (by rw [List.length_map, bl_len]; omega), List.getElem?_replicate, if_neg hi]]
  exact h

set_option maxRecDepth 100000 in
set_option maxHeartbeats 8000000 in
theorem walk (a0 : Option Addr) (len0 cap0 : Nat) (z0 : List Int) (w : World) (w0 : IsRow .u8 w a0 len0 cap0 z0) (hM : MaxOK5 w) :
    Calls Tryz.prog 3 #[.slice a0 len0 cap0] w fun e w' => e = .returned (.bool true) ∧ Below w.heap.size w w' := by
  by_cases hbig : 4096 < len0
  · have C0 := Lib.hid (big_yes a0 len0 cap0 w hbig)
    clear w0
    go_enter Tryz.func3, Tryz.ntmps3
    go_wp2_with fail
    refine C0.out.mono ?_
    rintro e w1 ⟨rfl, b1⟩
    go_wp2_with fail
    go_ret
    exact ⟨rfl, b1⟩
  have HM := Lib.hid hM
  have hlen : len0 ≤ 1048576 := by omega
  have C0 := Lib.hid (big_no a0 len0 cap0 w (by omega))
  have D1 := Lib.hid (fun (w' : World) (b : Below w.heap.size w w') => DrawBispecial_any a0 len0 cap0 z0 w' (w0.below b) hlen)
  have D2 := Lib.hid (fun (w' : World) (b : Below w.heap.size w w') => DrawComplexityOf_any a0 len0 cap0 z0 w' (w0.below b) hlen)
  have D3 := Lib.hid (fun (w' : World) (b : Below w.heap.size w w') => DrawHaveEqualFactors_any a0 len0 cap0 z0 w' (w0.below b) hlen)
  clear w0 hbig hlen hM
  go_enter Tryz.func3, Tryz.ntmps3
  go_wp2_with fail
  refine C0.out.mono ?_
  rintro e w1 ⟨rfl, B⟩
  clear C0
  go_wp2_with fail
  refine (D1.out _ B).mono ?_
  rintro e w2 ⟨x, m, rfl, hx, wm, b2⟩
  have B := B.then b2
  clear b2 D1
  have sx : x.size ≤ maxLen := by unfold Go.maxLen; omega
  have hg : (factorsR x m).2 = 0 → ∃ n : Nat, m = n ∧ IsW x ∧ n ≤ 60 ∧ (factorsR x m).1 = facs x n ∧ (feR x m).1 = edgesOf x n ∧ (feR x m).2 = 0 ∧ (ccyR x m).2 = 0 ∧ ((facs x n).length = 0 ∧ (facs x (n + 1)).length = 0 ∨ 0 < (facs x n).length ∧ (ccyR x m).1 = ((facs x (n + 1)).length : Int) - ((facs x n).length : Int) + 1) := fun h => by
    obtain ⟨n, h1, h2, h3, h4, h5, h6, h7⟩ := num_good (x := x) (m := m) h
    exact ⟨n, h1, h2, h3, by rw [h4], by rw [h5], by rw [h5], h6, h7⟩
  have hsl : (filtK x [true, false] (factorsR x m).1).length ≤ (filtK x [true] (factorsR x m).1).length ∧ (filtK x [true, false] (factorsR x m).1).length ≤ (filtK x [false] (factorsR x m).1).length ∧ (filtK x [true] (factorsR x m).1).length = (factorsR x m).1.countP (spB x true) := sp_lens x _
  have ifc := fun w => impl_FactorsOf x m w sx wm
  have iBispecial := fun w (h : MaxOK5 w) => impl_Bispecial x m w sx wm h
  have sBispecial := fun w => spec_Bispecial x m w sx wm
  have iRightSpecial := fun w (h : MaxOK5 w) => impl_RightSpecial x m w sx wm h
  have sRightSpecial := fun w => spec_RightSpecial x m w sx wm
  have iLeftSpecial := fun w (h : MaxOK5 w) => impl_LeftSpecial x m w sx wm h
  have sLeftSpecial := fun w => spec_LeftSpecial x m w sx wm
  have iFactorEdges := fun w => impl_FactorEdges x m w sx wm
  have sFactorEdges := fun w => spec_FactorEdges x m w sx wm
  have iCountCycles := fun w => impl_CountCycles x m w sx wm
  have sCountCycles := fun w => spec_CountCycles x m w sx wm
  unfold bsR at iBispecial sBispecial
  unfold rsR at iRightSpecial sRightSpecial
  unfold lsR at iLeftSpecial sLeftSpecial
  dsimp only at iBispecial sBispecial iRightSpecial sRightSpecial iLeftSpecial sLeftSpecial
  generalize filtK x [true, false] (factorsR x m).1 = BS at hsl iBispecial sBispecial
  generalize filtK x [true] (factorsR x m).1 = RS at hsl iRightSpecial sRightSpecial
  generalize filtK x [false] (factorsR x m).1 = LS at hsl iLeftSpecial sLeftSpecial
  generalize (factorsR x m).1 = F at hg hsl ifc
  generalize (factorsR x m).2 = c at hg ifc iBispecial sBispecial iRightSpecial sRightSpecial iLeftSpecial sLeftSpecial
  generalize (feR x m).1 = Ed at hg iFactorEdges sFactorEdges
  generalize (feR x m).2 = ce at hg iFactorEdges sFactorEdges
  generalize (ccyR x m).1 = cv at hg iCountCycles sCountCycles
  generalize (ccyR x m).2 = cc at hg iCountCycles sCountCycles
  have IBispecial := Lib.hid iBispecial
  have SBispecial := Lib.hid sBispecial
  clear iBispecial sBispecial
  have IRightSpecial := Lib.hid iRightSpecial
  have SRightSpecial := Lib.hid sRightSpecial
  clear iRightSpecial sRightSpecial
  have ILeftSpecial := Lib.hid iLeftSpecial
  have SLeftSpecial := Lib.hid sLeftSpecial
  clear iLeftSpecial sLeftSpecial
  have IFactorEdges := Lib.hid iFactorEdges
  have SFactorEdges := Lib.hid sFactorEdges
  clear iFactorEdges sFactorEdges
  have ICountCycles := Lib.hid iCountCycles
  have SCountCycles := Lib.hid sCountCycles
  clear iCountCycles sCountCycles
  have HG := Lib.hid hg
  have HSL := Lib.hid hsl
  have IFC := Lib.hid ifc
  clear hg hsl ifc wm
  go_wp2_with fail
  refine (IBispecial.out _ (HM.out.below B)).mono ?_
  rintro e y1 ⟨v1, rfl, o1, b⟩
  have B := B.then b
  clear b IBispecial
  go_wp2_with fail
  refine (SBispecial.out _).mono ?_
  rintro e y2 ⟨v2, rfl, o2, b⟩
  have B := B.then b
  have o1 := o1.below b
  clear b SBispecial
  go_wp2_with fail
  refine (IRightSpecial.out _ (HM.out.below B)).mono ?_
  rintro e y3 ⟨v3, rfl, o3, b⟩
  have B := B.then b
  have o1 := o1.below b
  have o2 := o2.below b
  clear b IRightSpecial
  go_wp2_with fail
  refine (SRightSpecial.out _).mono ?_
  rintro e y4 ⟨v4, rfl, o4, b⟩
  have B := B.then b
  have o1 := o1.below b
  have o2 := o2.below b
  have o3 := o3.below b
  clear b SRightSpecial
  go_wp2_with fail
  refine (ILeftSpecial.out _ (HM.out.below B)).mono ?_
  rintro e y5 ⟨v5, rfl, o5, b⟩
  have B := B.then b
  have o1 := o1.below b
  have o2 := o2.below b
  have o3 := o3.below b
  have o4 := o4.below b
  clear b ILeftSpecial
  go_wp2_with fail
  refine (SLeftSpecial.out _).mono ?_
  rintro e y6 ⟨v6, rfl, o6, b⟩
  have B := B.then b
  have o1 := o1.below b
  have o2 := o2.below b
  have o3 := o3.below b
  have o4 := o4.below b
  have o5 := o5.below b
  clear b SLeftSpecial
  go_wp2_with fail
  refine (IFactorEdges.out _).mono ?_
  rintro e y7 ⟨v7, rfl, o7, b⟩
  have B := B.then b
  have o1 := o1.below b
  have o2 := o2.below b
  have o3 := o3.below b
  have o4 := o4.below b
  have o5 := o5.below b
  have o6 := o6.below b
  clear b IFactorEdges
  go_wp2_with fail
  refine (SFactorEdges.out _).mono ?_
  rintro e y8 ⟨v8, rfl, o8, b⟩
  have B := B.then b
  have o1 := o1.below b
  have o2 := o2.below b
  have o3 := o3.below b
  have o4 := o4.below b
  have o5 := o5.below b
  have o6 := o6.below b
  have o7 := o7.below b
  clear b SFactorEdges
  go_wp2_with fail
  refine (ICountCycles.out _).mono ?_
  rintro e y9 ⟨rfl, b⟩
  have B := B.then b
  have o1 := o1.below b
  have o2 := o2.below b
  have o3 := o3.below b
  have o4 := o4.below b
  have o5 := o5.below b
  have o6 := o6.below b
  have o7 := o7.below b
  have o8 := o8.below b
  clear b ICountCycles
  go_wp2_with fail
  refine (SCountCycles.out _).mono ?_
  rintro e y10 ⟨rfl, b⟩
  have B := B.then b
  have o1 := o1.below b
  have o2 := o2.below b
  have o3 := o3.below b
  have o4 := o4.below b
  have o5 := o5.below b
  have o6 := o6.below b
  have o7 := o7.below b
  have o8 := o8.below b
  clear b SCountCycles
  go_wp2_with fail
  refine (words5_yes _ _ _ _ _ _ o1 o2).mono ?_
  rintro e z ⟨rfl, b⟩
  have B := B.then b
  have o1 := o1.below b
  have o3 := o3.below b
  have o4 := o4.below b
  have o5 := o5.below b
  have o6 := o6.below b
  have o7 := o7.below b
  have o8 := o8.below b
  clear b o2
  go_wp2_with fail
  refine (words5_yes _ _ _ _ _ _ o3 o4).mono ?_
  rintro e z ⟨rfl, b⟩
  have B := B.then b
  have o1 := o1.below b
  have o3 := o3.below b
  have o5 := o5.below b
  have o6 := o6.below b
  have o7 := o7.below b
  have o8 := o8.below b
  clear b o4
  go_wp2_with fail
  refine (words5_yes _ _ _ _ _ _ o5 o6).mono ?_
  rintro e z ⟨rfl, b⟩
  have B := B.then b
  have o1 := o1.below b
  have o3 := o3.below b
  have o5 := o5.below b
  have o7 := o7.below b
  have o8 := o8.below b
  clear b o6
  go_wp2_with fail
  refine (rows5_yes _ _ _ _ _ _ o7 o8).mono ?_
  rintro e z ⟨rfl, b⟩
  have B := B.then b
  have o1 := o1.below b
  have o3 := o3.below b
  have o5 := o5.below b
  have o7 := o7.below b
  clear b o8
  go_upto_if 169 with fail
  go_cut [25, 26, 27, 28, 29, 30] from 170 to 289 (fun s25 s26 s27 s28 s29 s30 wd => Below z.heap.size z wd)
  case first => as_aux_lemma =>
    by_cases hc : c = 0
    · obtain ⟨n, rfl, hw, hn, rfl, rfl, rfl, rfl, hcy⟩ := HG.out hc
      subst hc
      have hx60 := hw.size
      obtain ⟨cn, hcn⟩ : ∃ cn : Nat → Nat, ∀ i, cn i = ((facs x n).take i).countP (spB x true) := ⟨_, fun _ => rfl⟩
      obtain ⟨bh, hbh⟩ : ∃ bh : Nat → Nat → Nat, ∀ k i, bh k i = bhF x n k i := ⟨_, fun _ _ => rfl⟩
      have HE : Hid (∀ k, k < (facs x (n + 1)).length → ∃ a b : Nat, a < (facs x n).length ∧ b < (facs x n).length ∧ (edgesOf x n).getD k [] = [(a : Int), (b : Int)] ∧ ∀ i, bh (k + 1) i = if i = a then bh k a + 1 else bh k i) := Lib.hid fun k hk => by
        obtain ⟨a, b, h1, h2, h3, h4⟩ := edge_good hk
        refine ⟨a, b, h1, h2, ?_, fun i => by rw [hbh, hbh, hbh]; exact h4 i⟩
        unfold edgesOf
        rw [List.getD_eq_getElem?_getD, List.getElem?_map, List.getElem?_eq_getElem hk]
        exact h3
      have HC : Hid (∀ i, i < (facs x n).length → cn (i + 1) = cn i + if 1 < bh (facs x (n + 1)).length i then 1 else 0) := Lib.hid fun i hi => by
        rw [hcn, hcn, hbh, count_take x _ i hi, bh_sp hw hi]
        simp only [decide_eq_true_eq]
      have HCL : Hid (∀ i, (facs x n).length ≤ i → cn i = RS.length) := Lib.hid fun i hi => by
        rw [hcn, List.take_of_length_le hi]; exact HSL.out.2.2.symm
      have HC0 : Hid (cn 0 = 0) := Lib.hid (by rw [hcn]; rfl)
      have HCB : Hid (∀ i, cn i ≤ 61) := Lib.hid fun i => by
        rw [hcn]
        have h1 := List.countP_le_length (p := spB x true) (l := (facs x n).take i)
        have h2 := facs_len x n
        rw [List.length_take] at h1
        omega
      have hN := facs_len x n
      have hM2 := facs_len x (n + 1)
      have hs1 := HSL.out.1
      have hs2 := HSL.out.2.1
      go_wp2_with fail
      refine (IFC.out _).mono ?_
      rintro e y11 ⟨v11, rfl, o11, b11⟩
      obtain ⟨ad1, cap1, rfl⟩ := lookS o1
      obtain ⟨ad3, cap3, rfl⟩ := lookS o3
      obtain ⟨ad5, cap5, rfl⟩ := lookS o5
      obtain ⟨ad11, cap11, rfl⟩ := lookS o11
      obtain ⟨ad7, cap7, e7, look7⟩ := lookR (o7.below b11)
      rw [edgesOf_len] at e7 look7
      subst e7
      have K7 := Lib.hid look7
      have HBL : Hid (∀ k i, bh k i ≤ k) := Lib.hid fun k i => by rw [hbh]; exact bhF_le x n k i
      have HB0 : Hid (∀ i, bh 0 i = 0) := Lib.hid fun i => by rw [hbh]; exact bhF_zero x n i
      clear o1 o3 o5 o7 o11 look7 HG HSL IFC hw hbh hcn
      obtain ⟨i0, hi, hz0, hz1, hz2⟩ := info_parts infoI64
      generalize (facs x (n + 1)).length = M at *
      generalize (facs x n).length = N at *
      rcases hcy with ⟨hN0, hM0⟩ | ⟨hN0, hcv⟩
      · have q1 : ¬ 0 < N := by omega
        have q2 : ¬ (0 : Int) < (N : Int) := by omega
        clear hN0 hM0
        have p1 : decide (RS.length < BS.length) = false := decide_eq_false (by omega)
        have p2 : decide (LS.length < BS.length) = false := decide_eq_false (by omega)
        have wq1 : IntKind.i64.wrap ((M : Int) - (N : Int)) = (M : Int) - (N : Int) := IntWalk.i64_in _ (by omega)
        have wq2 : IntKind.i64.wrap ((M : Int) - (N : Int) + 1) = (M : Int) - (N : Int) + 1 := IntWalk.i64_in _ (by omega)
        go_wp2_with (at_make; refine wpList_make_full _ rfl _ _ 36 rfl y11.heap.size 2 i0 (.int .i64 0) 1 Tryz.underlying36 hi hz0 hz1 .i64 .i64 (N : Int) (N : Int) N rfl rfl rfl rfl (by rw [hz2]; omega) (by unfold Go.maxLen; omega) (Nat.le_refl _) ?_; intro wm hown1 hgrow1)
        have hT0 : TabB wm y11.heap.size N (bh 0) := TabB.zero hown1 HB0.out
        have hB0 : Below z.heap.size z wm := b11.grown hgrow1 b11.size (fun _ e => by cases e)
        have hY0 : Below y11.heap.size y11 wm := (Below.refl _ _).grown hgrow1 (Nat.le_refl _) (fun _ e => by cases e)
        clear hown1 hgrow1 q1 q2 p1 p2 wq1 wq2
        go_wp2
        go_loopg [28] M (fun g s28 wr => ∃ k : Nat, k + g = M ∧ s28 = .int .i64 (k : Int) ∧ TabB wr y11.heap.size N (bh k) ∧ Below z.heap.size z wr ∧ Below y11.heap.size y11 wr)
        case atStart => exact ⟨0, by omega, rfl, hT0, hB0, hY0⟩
        case round =>
          clear hT0 hB0 hY0
          obtain ⟨k, hk, rfl, hT, hB, hY⟩ := hrel
          have HK := Lib.hid hk
          by_cases hpk : k < M
          · obtain ⟨gq, rfl⟩ : ∃ q, gk = q + 1 := ⟨gk - 1, by omega⟩
            have hki : (k : Int) < (M : Int) := by omega
            obtain ⟨a, b, ha, hb, hab, hstep⟩ := HE.out k hpk
            obtain ⟨g7, u, rfl, hg7, hkc, c7, ou⟩ := K7.out k hpk
            rw [hab] at ou
            obtain ⟨gu, cu, rfl, hgu0, hgu, hcu, _, ku, _⟩ := OwnI.row ou (by simp)
            have e1 : wr.cell? ⟨g7, k, none⟩ = some (.slice (some ⟨gu, 0, none⟩) 2 cu) := (bcell hY).1 g7 k hg7 |>.trans c7
            have e2 : wr.cell? ⟨gu, 0, none⟩ = some (.int .i64 (a : Int)) := (bcell hY).1 gu 0 hgu |>.trans (ku 0 (by simp))
            have e3 : wr.cell? ⟨gu, 1, none⟩ = some (.int .i64 (b : Int)) := (bcell hY).1 gu 1 hgu |>.trans (ku 1 (by simp))
            have e4 := hT.get ha
            have fz : wr.frozen? ⟨y11.heap.size, a, none⟩ = false := hT.frozenAt a
            have hbl := HBL.out k a
            have hcu2 : 2 ≤ cu := hcu
            have d1 : decide (N ≤ a) = false := decide_eq_false (by omega)
            have d2 : decide (N ≤ b) = false := decide_eq_false (by omega)
            have hai : (a : Int) < (N : Int) := by omega
            have hbi : (b : Int) < (N : Int) := by omega
            have HT2 := Lib.hid (hT.put (a := a) (v := bh k a + 1) (H := bh (k + 1)) (fun i _ => hstep i))
            have HB2 := Lib.hid (hB.setCell (p := ⟨y11.heap.size, a, none⟩) b11.size (.int .i64 ((bh k a + 1 : Nat) : Int)))
            have HY2 := Lib.hid (hY.setCell (p := ⟨y11.heap.size, a, none⟩) (Nat.le_refl _) (.int .i64 ((bh k a + 1 : Nat) : Int)))
            rw [show ((bh k a + 1 : Nat) : Int) = (bh k a : Int) + 1 by omega] at HT2 HB2 HY2
            clear hT hB hY hk hab hstep c7 ou ku
            generalize bh k a = bv at *
            go_wp2
            go_roundg gq
            case measure => omega
            case rel => exact ⟨k + 1, by have := HK.out; omega, by go_num, HT2.out, HB2.out, HY2.out⟩
          · obtain rfl : k = M := by omega
            have hki : ¬ (k : Int) < (k : Int) := by omega
            obtain ⟨wo, hwo⟩ : ∃ wo : World, wo = wr := ⟨_, rfl⟩
            rw [← hwo] at hT hB hY ⊢
            clear hwo wr hk hY
            have HT := Lib.hid hT
            clear hT
            go_wp2
            go_loopg [29, 30] N (fun g s29 s30 wr => ∃ i : Nat, i + g = N ∧ s30 = .int .i64 (i : Int) ∧ s29 = .int .i64 (cn i : Int) ∧ wr = wo)
            case atStart => exact ⟨0, by omega, rfl, by rw [HC0.out]; rfl, rfl⟩
            case round =>
              obtain ⟨i, hi2, rfl, rfl, rfl⟩ := hrel
              have HI := Lib.hid hi2
              by_cases hpi : i < N
              · obtain ⟨gq, rfl⟩ : ∃ q, gk = q + 1 := ⟨gk - 1, by omega⟩
                have hii : (i : Int) < (N : Int) := by omega
                have ci := HT.out.get hpi
                have hst := HC.out i hpi
                have hcb := HCB.out i
                by_cases h1 : 1 < bh k i
                · rw [if_pos h1] at hst
                  have HST := Lib.hid hst
                  have h1i : (1 : Int) < (bh k i : Int) := by omega
                  clear hst hi2
                  generalize bh k i = bv at *
                  generalize cn i = cv2 at *
                  go_wp2
                  go_roundg gq
                  case measure => omega
                  case rel => exact ⟨i + 1, by have := HI.out; omega, by go_num, by rw [HST.out]; go_num, rfl⟩
                · rw [if_neg h1] at hst
                  have HST := Lib.hid hst
                  have h1i : ¬ (1 : Int) < (bh k i : Int) := by omega
                  clear hst hi2
                  generalize bh k i = bv at *
                  generalize cn i = cv2 at *
                  go_wp2
                  go_roundg gq
                  case measure => omega
                  case rel => exact ⟨i + 1, by have := HI.out; omega, by go_num, by rw [HST.out]; rfl, rfl⟩
              · have hii : ¬ (i : Int) < (N : Int) := by omega
                have hce := HCL.out i (by omega)
                rw [hce]
                clear hi2 hce
                go_wp2
                go_meet
                case rel => exact hB
      · subst hcv
        have q1 : 0 < N := hN0
        have q2 : (0 : Int) < (N : Int) := by omega
        have p1 : decide (RS.length < BS.length) = false := decide_eq_false (by omega)
        have p2 : decide (LS.length < BS.length) = false := decide_eq_false (by omega)
        have wq1 : IntKind.i64.wrap ((M : Int) - (N : Int)) = (M : Int) - (N : Int) := IntWalk.i64_in _ (by omega)
        have wq2 : IntKind.i64.wrap ((M : Int) - (N : Int) + 1) = (M : Int) - (N : Int) + 1 := IntWalk.i64_in _ (by omega)
        go_wp2_with (at_make; refine wpList_make_full _ rfl _ _ 36 rfl y11.heap.size 2 i0 (.int .i64 0) 1 Tryz.underlying36 hi hz0 hz1 .i64 .i64 (N : Int) (N : Int) N rfl rfl rfl rfl (by rw [hz2]; omega) (by unfold Go.maxLen; omega) (Nat.le_refl _) ?_; intro wm hown1 hgrow1)
        have hT0 : TabB wm y11.heap.size N (bh 0) := TabB.zero hown1 HB0.out
        have hB0 : Below z.heap.size z wm := b11.grown hgrow1 b11.size (fun _ e => by cases e)
        have hY0 : Below y11.heap.size y11 wm := (Below.refl _ _).grown hgrow1 (Nat.le_refl _) (fun _ e => by cases e)
        clear hown1 hgrow1 q1 q2 p1 p2 wq1 wq2
        go_wp2
        go_loopg [28] M (fun g s28 wr => ∃ k : Nat, k + g = M ∧ s28 = .int .i64 (k : Int) ∧ TabB wr y11.heap.size N (bh k) ∧ Below z.heap.size z wr ∧ Below y11.heap.size y11 wr)
        case atStart => exact ⟨0, by omega, rfl, hT0, hB0, hY0⟩
        case round =>
          clear hT0 hB0 hY0
          obtain ⟨k, hk, rfl, hT, hB, hY⟩ := hrel
          have HK := Lib.hid hk
          by_cases hpk : k < M
          · obtain ⟨gq, rfl⟩ : ∃ q, gk = q + 1 := ⟨gk - 1, by omega⟩
            have hki : (k : Int) < (M : Int) := by omega
            obtain ⟨a, b, ha, hb, hab, hstep⟩ := HE.out k hpk
            obtain ⟨g7, u, rfl, hg7, hkc, c7, ou⟩ := K7.out k hpk
            rw [hab] at ou
            obtain ⟨gu, cu, rfl, hgu0, hgu, hcu, _, ku, _⟩ := OwnI.row ou (by simp)
            have e1 : wr.cell? ⟨g7, k, none⟩ = some (.slice (some ⟨gu, 0, none⟩) 2 cu) := (bcell hY).1 g7 k hg7 |>.trans c7
            have e2 : wr.cell? ⟨gu, 0, none⟩ = some (.int .i64 (a : Int)) := (bcell hY).1 gu 0 hgu |>.trans (ku 0 (by simp))
            have e3 : wr.cell? ⟨gu, 1, none⟩ = some (.int .i64 (b : Int)) := (bcell hY).1 gu 1 hgu |>.trans (ku 1 (by simp))
            have e4 := hT.get ha
            have fz : wr.frozen? ⟨y11.heap.size, a, none⟩ = false := hT.frozenAt a
            have hbl := HBL.out k a
            have hcu2 : 2 ≤ cu := hcu
            have d1 : decide (N ≤ a) = false := decide_eq_false (by omega)
            have d2 : decide (N ≤ b) = false := decide_eq_false (by omega)
            have hai : (a : Int) < (N : Int) := by omega
            have hbi : (b : Int) < (N : Int) := by omega
            have HT2 := Lib.hid (hT.put (a := a) (v := bh k a + 1) (H := bh (k + 1)) (fun i _ => hstep i))
            have HB2 := Lib.hid (hB.setCell (p := ⟨y11.heap.size, a, none⟩) b11.size (.int .i64 ((bh k a + 1 : Nat) : Int)))
            have HY2 := Lib.hid (hY.setCell (p := ⟨y11.heap.size, a, none⟩) (Nat.le_refl _) (.int .i64 ((bh k a + 1 : Nat) : Int)))
            rw [show ((bh k a + 1 : Nat) : Int) = (bh k a : Int) + 1 by omega] at HT2 HB2 HY2
            clear hT hB hY hk hab hstep c7 ou ku
            generalize bh k a = bv at *
            go_wp2
            go_roundg gq
            case measure => omega
            case rel => exact ⟨k + 1, by have := HK.out; omega, by go_num, HT2.out, HB2.out, HY2.out⟩
          · obtain rfl : k = M := by omega
            have hki : ¬ (k : Int) < (k : Int) := by omega
            obtain ⟨wo, hwo⟩ : ∃ wo : World, wo = wr := ⟨_, rfl⟩
            rw [← hwo] at hT hB hY ⊢
            clear hwo wr hk hY
            have HT := Lib.hid hT
            clear hT
            go_wp2
            go_loopg [29, 30] N (fun g s29 s30 wr => ∃ i : Nat, i + g = N ∧ s30 = .int .i64 (i : Int) ∧ s29 = .int .i64 (cn i : Int) ∧ wr = wo)
            case atStart => exact ⟨0, by omega, rfl, by rw [HC0.out]; rfl, rfl⟩
            case round =>
              obtain ⟨i, hi2, rfl, rfl, rfl⟩ := hrel
              have HI := Lib.hid hi2
              by_cases hpi : i < N
              · obtain ⟨gq, rfl⟩ : ∃ q, gk = q + 1 := ⟨gk - 1, by omega⟩
                have hii : (i : Int) < (N : Int) := by omega
                have ci := HT.out.get hpi
                have hst := HC.out i hpi
                have hcb := HCB.out i
                by_cases h1 : 1 < bh k i
                · rw [if_pos h1] at hst
                  have HST := Lib.hid hst
                  have h1i : (1 : Int) < (bh k i : Int) := by omega
                  clear hst hi2
                  generalize bh k i = bv at *
                  generalize cn i = cv2 at *
                  go_wp2
                  go_roundg gq
                  case measure => omega
                  case rel => exact ⟨i + 1, by have := HI.out; omega, by go_num, by rw [HST.out]; go_num, rfl⟩
                · rw [if_neg h1] at hst
                  have HST := Lib.hid hst
                  have h1i : ¬ (1 : Int) < (bh k i : Int) := by omega
                  clear hst hi2
                  generalize bh k i = bv at *
                  generalize cn i = cv2 at *
                  go_wp2
                  go_roundg gq
                  case measure => omega
                  case rel => exact ⟨i + 1, by have := HI.out; omega, by go_num, by rw [HST.out]; rfl, rfl⟩
              · have hii : ¬ (i : Int) < (N : Int) := by omega
                have hce := HCL.out i (by omega)
                rw [hce]
                clear hi2 hce
                go_wp2
                go_meet
                case rel => exact hB
    · have hcf : (c == 0) = false := beq_eq_false_iff_ne.2 hc
      go_wp2_with fail
      go_meet
      case rel => exact Below.refl _ _
  case rest => as_aux_lemma =>
    have B := B.then hcut
    clear hcut HG HSL IFC HM o1 o3 o5 o7
    go_wp2_with fail
    refine (D2.out _ B).mono ?_
    rintro e t1 ⟨t, rfl, ht, b⟩
    have B := B.then b
    clear b D2
    have st : t.size ≤ maxLen := by unfold Go.maxLen; omega
    have hg := fun h => cx_good (x := t) h
    have ic := fun w => impl_ComplexityOf t w st
    have sc := fun w => spec_ComplexityOf t w st
    have ifc := fun w => impl_CountFactors t w st
    have sfc := fun w => spec_CountFactors t w st
    generalize (cxR t).1 = L at hg ic sc
    generalize (cxR t).2 = c2 at hg ic sc
    generalize cfR t = q at hg ifc sfc
    obtain ⟨fa, fb⟩ := q
    dsimp only at ifc sfc
    have HG := Lib.hid hg
    have IC := Lib.hid ic
    have SC := Lib.hid sc
    have IFC := Lib.hid ifc
    have SFC := Lib.hid sfc
    clear hg ic sc ifc sfc
    go_wp2_with fail
    refine (IC.out _).mono ?_
    rintro e t2 ⟨v1, rfl, o1, b⟩
    have B := B.then b
    clear b IC
    go_wp2_with fail
    refine (SC.out _).mono ?_
    rintro e t3 ⟨v2, rfl, o2, b⟩
    have B := B.then b
    have o1 := o1.below b
    clear b SC
    go_wp2_with fail
    refine (IFC.out _).mono ?_
    rintro e t4 ⟨rfl, b⟩
    have B := B.then b
    have o1 := o1.below b
    have o2 := o2.below b
    clear b IFC
    go_wp2_with fail
    refine (SFC.out _).mono ?_
    rintro e t5 ⟨rfl, b⟩
    have B := B.then b
    have o1 := o1.below b
    have o2 := o2.below b
    clear b SFC
    go_wp2_with fail
    refine (likeInts_yes _ _ _ _ _ _ o1 o2).mono ?_
    rintro e t6 ⟨rfl, b⟩
    have B := B.then b
    have o1 := o1.below b
    clear b o2
    go_upto_if 332 with fail
    go_cut [40, 41] from 333 to 366 (fun s40 s41 wd => Below t6.heap.size t6 wd)
    case first => as_aux_lemma =>
      by_cases hc : c2 = 0
      · obtain ⟨h1, h2, h3, h4⟩ := HG.out hc
        subst hc
        injection h3 with e1 e2
        subst e1 e2
        obtain ⟨g, cap, rfl, _, hgl, hcl, _, cell, _⟩ := OwnI.row o1 (by omega)
        have hb : ∀ z ∈ L, 0 ≤ z ∧ z ≤ 100 := fun z hz => by
          obtain ⟨k, hk, rfl⟩ := List.getElem_of_mem hz
          have := h4 k hk
          omega
        have CS := Lib.hid (sum_same g cap L t6 hcl (Lib.hid cell) hb (by omega))
        have C := Lib.hid cell
        have H4 := Lib.hid h4
        have HL := Lib.hid h2
        have q1 : ((L.length : Int) != (t.size : Int) + 1) = false := by rw [show (L.length : Int) = (t.size : Int) + 1 by omega]; simp
        have hlc : t.size + 1 ≤ cap := by omega
        have hll : t.size + 1 ≤ L.length := by omega
        clear HG h2 h4 cell hb o1
        generalize L.sum = S at *
        go_wp2_with fail
        refine CS.out.mono ?_
        rintro e t7 ⟨rfl, rfl⟩
        go_wp2
        go_loopg [41] (t.size + 1) (fun gg s41 wr => ∃ k : Nat, k + gg = t.size + 1 ∧ s41 = .int .i64 (k : Int) ∧ wr = t7)
        case atStart => exact ⟨0, by omega, rfl, rfl⟩
        case round =>
          clear CS q1
          obtain ⟨k, hk, rfl, rfl⟩ := hrel
          have HK := Lib.hid hk
          by_cases hpk : k < t.size + 1
          · obtain ⟨gq, rfl⟩ : ∃ q, gk = q + 1 := ⟨gk - 1, by omega⟩
            have hki : (k : Int) ≤ (t.size : Int) := by omega
            have hkl : k < L.length := by omega
            have hkl2 : (k : Int) < (L.length : Int) := by omega
            have ck := C.out k hkl
            obtain ⟨m1, m2⟩ := H4.out k hkl
            have hkc : k < cap := by omega
            clear hk
            generalize L[k]'hkl = u at *
            have z1 : decide (u < 1) = false := decide_eq_false (by omega)
            have z2 : decide ((t.size : Int) - (k : Int) + 1 < u) = false := decide_eq_false (by omega)
            go_wp2
            go_roundg gq
            case measure => omega
            case rel => exact ⟨k + 1, by have := HK.out; omega, by go_num, rfl⟩
          · have hki : ¬ (k : Int) ≤ (t.size : Int) := by omega
            go_wp2
            go_meet
            case rel => exact Below.refl _ _
      · have hcf : (c2 == 0) = false := beq_eq_false_iff_ne.2 hc
        go_wp2_with fail
        go_meet
        case rel => exact Below.refl _ _
    case rest => as_aux_lemma =>
      have B := B.then hcut
      clear hcut HG o1
      go_wp2_with fail
      refine (D3.out _ B).mono ?_
      rintro e u1 ⟨y, yy, k, rfl, hy, hyy, wk, b⟩
      have B := B.then b
      clear b D3
      have sy : y.size ≤ maxLen := by unfold Go.maxLen; omega
      have syy : yy.size ≤ maxLen := by unfold Go.maxLen; omega
      have ih := fun w => impl_HaveEqualFactors y yy k w sy syy wk
      have sh := fun w => spec_HaveEqualFactors y yy k w sy syy wk
      generalize (heR y yy k).1 = r1 at ih sh
      generalize (heR y yy k).2 = r2 at ih sh
      have IH := Lib.hid ih
      have SH := Lib.hid sh
      clear ih sh wk
      go_wp2_with fail
      refine (IH.out _).mono ?_
      rintro e u2 ⟨rfl, b⟩
      have B := B.then b
      clear b
      go_wp2_with fail
      refine (SH.out _).mono ?_
      rintro e u3 ⟨rfl, b⟩
      have B := B.then b
      clear b
      go_wp2_with fail
      go_ret
      exact ⟨rfl, B⟩

theorem own : ownKnob Tryz.prog.godebug = none := by kernel_rfl
theorem laidOut : laidOutB Tryz.prog = true := by kernel_rfl

set_option maxRecDepth 100000 in
theorem lifted (os : Os) (started : os.Started) (H : Type) (enc : TypeId × Value → H) :
    ReturnsInHanded {} Tryz.checked os 3 .any (Rows.fnFactorNumbersSpec.pre6 enc Tryz.prog Tryz.f3 Rows.fnFactorNumbersRow.domain false) (Rows.fnFactorNumbersSpec.post enc Tryz.prog Tryz.f3 false true false false) := by
  refine returnsInHanded_of_change_shaped (C := Tryz.checked) own started (by kernel_rfl) Tryz.func3
    (ChangeSpec.witness6 (enc := enc) (C := Tryz.checked) false ⟨#[], #[.slice none 0 0], []⟩ 8 (by kernel_rfl) (by kernel_rfl) (by kernel_rfl) (by kernel_rfl)) ?_
  intro W base args ds gs before hval0 hW hcnd hwt hsh _
  have hval : ∀ (j : Nat) t v, Tryz.f3.params[j]? = some t → args[j]? = some v → Value.okWide Tryz.prog W .any base t v := hval0
  have hW' := hW
  obtain ⟨p, q, hA0, hV, rfl, hfz, hnd⟩ := hW
  have hA : DataW.TrodAll enc Tryz.prog W 0 (fun _ => true) true Tryz.f3.params.toList args.toList ds p := hA0
  rw [Tryz.params3] at hA hval
  obtain ⟨v0, vs0, d0, ds0, p0, q0, hargs, rfl, rfl, h0, r0⟩ := trodAll_cons hA
  obtain ⟨rfl, rfl, rfl⟩ := trodAll_nil r0
  obtain rfl : args = #[v0] := by cases args; simp_all
  obtain ⟨rfl, rfl⟩ := trodVars_none hV
  obtain ⟨a0, len0, cap0, rfl⟩ := okWide_slice Tryz.underlying22 (hval 0 22 v0 rfl rfl)
  have k0 := h0
  have lt0 : ∀ x ∈ p0, x.block < W.heap.size := by obtain ⟨m, hm⟩ := k0; exact DataW.trod_lt m _ _ _ hm
  obtain ⟨z0, w0⟩ : ∃ zs, IsRow .u8 W a0 len0 cap0 zs := by
    obtain ⟨fuel, hf⟩ := h0
    rcases open_ints Tryz.underlying22 Tryz.underlying5 (by kernel_rfl) hf with ⟨hcs, _⟩ | ⟨x, l, c, zs, hcs, _, hl, hm, hz, _, hcell, hwz⟩
    · simp [Value.cells] at hcs
      obtain ⟨rfl, rfl, rfl⟩ := hcs
      exact ⟨[], .inl ⟨rfl, rfl, rfl, rfl⟩⟩
    · simp [Value.cells] at hcs
      obtain ⟨rfl, rfl, rfl⟩ := hcs
      exact ⟨zs, .inr ⟨_, rfl, hl, hm, by simpa using hz, hcell, hwz⟩⟩
  clear hA0 hval0
  refine (walk a0 len0 cap0 z0 W w0 (maxOK5_of hsh)).mono fun e W' ⟨he, bel⟩ => ?_
  subst he
  exact ⟨_, rfl, _, _, _, [], _, [], hW', trodAll_mk1 (shut_bool Tryz.underlying4 _), (trodAll_cons_mk (Below.trod laidOut (by kernel_rfl) (of_decide_eq_true (by kernel_rfl)) k0 bel lt0) trodAll_mk0), rfl, bel.frame _, fun h => by cases h⟩

theorem over : Rows.fnFactorNumbersRow.holds Tryz.pinned (OpenSpec.ofChange Rows.fnFactorNumbersSpec) :=
  OpenClaim.holds_of_wide 3 Tryz.f3 rfl rfl rfl rfl rfl rfl rfl ⟨rfl, rfl, rfl, rfl, rfl⟩ rfl rfl rfl rfl rfl (by kernel_rfl) Tryz.func3 (by kernel_rfl)
    (of_decide_eq_true (by kernel_rfl)) (by unfold Func.isWrapper; first | (rw [if_pos (by decide +kernel)]; kernel_rfl) | (rw [if_neg (by decide +kernel)]; exact ⟨rfl, rfl⟩))
    (fun os started H enc _ => lifted os started H enc)

theorem proved : Rows.FnFactorNumbersSaid := over
#print axioms proved

end Go.Proofs.YtbhgghajbdlfkabGreat.fnFactorNumbers
