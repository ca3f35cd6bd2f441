/- For every list of bytes: least covers have no cover but themselves, covers are seeds and but the word borders, a word grown by a cover has it, and a word covers another just if no place is left, as the law asks. Condition: the table of the library that its code reads holds what the program's text lays. -/
import Derived.Test.YtfipbnognjepkaaDoorW19
import Derived.Test.YtfipbnognjepkaaDoorW18
import Derived.Test.YtfipbnognjepkaaDoorW17
import Derived.Test.YtfipbnognjepkaaDoorFnCovGood
import Derived.Test.YtfipbnognjepkaaDoorGrD
import Derived.Test.YtfipbnognjepkaaDoorRows
import Derived.WalkKit
import Derived.ProofKit
import Derived.OpenShut
import Derived.ShutString
import Derived.ChangeOld
import Derived.Below
import Derived.LaidMore
import Derived.Lay
import Derived.SevenTiedAt
import Derived.Test.YtfipbnognjepkaaDoorCards
import Derived.Test.YtfipbnognjepkaaDoorTie
import Derived.Deep.Cut
import Derived.Deep.CutRange
namespace Go.Proofs.YtfipbnognjepkaaDoor.fnCovers
open Go.ChangeShapes Go.WideShapes Go.ChangeAt Go.RowKit
open Go.ChangeMaps (open_string shut_string)
set_option linter.unusedVariables false

theorem ownS_valueC {w : World} {B : Nat} {v : Value} {L : List ByteArray} (h : OwnS w B v L) : ∃ a c, v = .slice a L.length c := by
  rcases own_forms h with ⟨rfl, h0, _⟩ | ⟨g, cap, hv, _⟩
  · exact ⟨none, 0, by rw [h0]⟩
  · exact ⟨_, cap, hv⟩
theorem ownI_valueC {w : World} {B : Nat} {v : Value} {L : List Int} (h : OwnI w B v L) : ∃ a c, v = .slice a L.length c := by
  rcases own_forms h with ⟨rfl, h0, _⟩ | ⟨g, cap, hv, _⟩
  · exact ⟨none, 0, by rw [h0]⟩
  · exact ⟨_, cap, hv⟩

set_option maxRecDepth 100000 in
set_option maxHeartbeats 16000000 in
theorem walk (a0 : Option Addr) (len0 cap0 : Nat) (z0 : List Int) (w : World) (w0 : IsRow .u8 w a0 len0 cap0 z0) (hT : TabZ w) (hw0 : 0 < w.heap.size) :
    Calls Tryd.prog 7 #[.slice a0 len0 cap0] w fun e w' => e = .returned (.bool true) ∧ Below w.heap.size w w' := by
  have h0 := Lib.hid w0
  have HTT := Lib.hid hT
  clear w0 hT
  by_cases hbig : 4096 < len0
  · clear h0
    have C0 := Lib.hid (big_yes a0 len0 cap0 w hbig)
    go_enter Tryd.func7, Tryd.ntmps7
    go_wp2_with fail
    refine C0.out.mono ?_
    rintro e x0 ⟨rfl, b⟩
    go_wp2_with fail
    go_ret
    exact ⟨rfl, b⟩
  have C0 := Lib.hid (big_no a0 len0 cap0 w (by omega))
  have hl : len0 ≤ 1048576 := by omega
  have D1 := Lib.hid (fun w' (b : Below w.heap.size w w') => DrawCoversOf_any a0 len0 cap0 z0 w' (h0.out.below b) hl)
  have D2 := Lib.hid (fun w' (b : Below w.heap.size w w') => DrawGrowByCover_any a0 len0 cap0 z0 w' (h0.out.below b) hl)
  have D3 := Lib.hid (fun w' (b : Below w.heap.size w w') => DrawIsCover_any a0 len0 cap0 z0 w' (h0.out.below b) hl)
  clear h0
  go_enter Tryd.func7, Tryd.ntmps7
  have B := Below.refl w.heap.size w
  go_wp2_with fail
  refine (C0.out).mono ?_
  rintro e x1 ⟨rfl, b⟩
  have B := B.then b
  clear b C0
  go_wp2_with fail
  refine (D1.out _ B).mono ?_
  rintro e x2 ⟨x, rfl, hx, b⟩
  have B := B.then b
  clear b D1
  have sx : x.size ≤ maxLen := by unfold maxLen; omega
  have i1 := fun w => impl_CoversOf x w sx
  have j1 := fun w => spec_CoversOf x w sx
  have i2 := fun w => impl_LeastCover x w sx
  have j2 := fun w => spec_LeastCover x w sx
  have i3 := fun w => impl_CoverLengths x w sx
  have j3 := fun w => spec_CoverLengths x w sx
  have i4 := fun w => impl_IsSuperprimitive x w sx
  have j4 := fun w => spec_IsSuperprimitive x w sx
  unfold RetS at i1 j1
  unfold RetI at i3 j3
  have HIC := Lib.hid (fun z w (sz : z.size ≤ maxLen) => impl_IsCover x z w sx sz)
  have HUN := Lib.hid (fun z w (sz : z.size ≤ maxLen) (h : TabZ w ∧ 0 < w.heap.size) => impl_UncoveredPlaces x z w sx sz h.1 h.2)
  have HSD := Lib.hid (fun z w (sz : z.size ≤ maxLen) => impl_IsSeed x z w sx sz)
  have HBO := Lib.hid (fun w => impl_BordersOf x w sx)
  have GMX : Hid (((coversR x).2 ≠ 0 ∨ x.size = 0) ∨ (IsW x ∧ 0 < x.size ∧ (coversR x).2 = 0 ∧ (coversR x).1 = cvs x ∧ leastCoverR x = (lc x, 0) ∧ (coverLengthsR x).1 = clsL x x.size ∧ (superR x).1 = decide ((cvs x).length = 1))) := Lib.hid (by
    rcases gM x with h | ⟨h, h0⟩
    · exact .inl h
    · exact .inr ⟨h, h0, by rw [coversR_ok h], by rw [coversR_ok h], leastCoverR_ok h (by omega), by rw [coverLengthsR_ok h], by rw [superR_ok h]⟩)
  have hg2 : leastCoverR x = ((leastCoverR x).1, (leastCoverR x).2) := rfl
  have GMY : Hid (((coversR x).2 ≠ 0 ∨ x.size = 0) ∨ (IsW x ∧ 0 < x.size ∧ (coversR x).2 = 0 ∧ (coversR x).1 = cvs x ∧ (leastCoverR x).1 = lc x ∧ (leastCoverR x).2 = 0 ∧ (coverLengthsR x).1 = clsL x x.size ∧ (superR x).1 = decide ((cvs x).length = 1))) := Lib.hid (by
    rcases GMX.out with h | ⟨a, b, c, d, e, f, g⟩
    · exact .inl h
    · exact .inr ⟨a, b, c, d, by rw [e], by rw [e], f, g⟩)
  clear GMX hg2
  generalize (coversR x).1 = L at i1 j1 GMY
  generalize (coversR x).2 = c1 at i1 j1 GMY
  generalize (leastCoverR x).1 = lt at i2 j2 GMY
  generalize (leastCoverR x).2 = c2 at i2 j2 GMY
  generalize (coverLengthsR x).1 = K at i3 j3 GMY
  generalize (coverLengthsR x).2 = c3 at i3 j3
  generalize (superR x).1 = sb at i4 j4 GMY
  generalize (superR x).2 = c4 at i4 j4
  have I1 := Lib.hid i1
  have J1 := Lib.hid j1
  have I2 := Lib.hid i2
  have J2 := Lib.hid j2
  have I3 := Lib.hid i3
  have J3 := Lib.hid j3
  have I4 := Lib.hid i4
  have J4 := Lib.hid j4
  clear i1 j1 i2 j2 i3 j3 i4 j4
  go_wp2_with fail
  refine (I1.out _).mono ?_
  rintro e x3 ⟨v1, rfl, o1, b⟩
  have B := B.then b
  clear b I1
  go_wp2_with fail
  refine (J1.out _).mono ?_
  rintro e x4 ⟨u1, rfl, p1, b⟩
  have B := B.then b
  replace o1 := o1.below b
  clear b J1
  go_wp2_with fail
  refine (I2.out _).mono ?_
  rintro e x5 ⟨rfl, b⟩
  have B := B.then b
  replace o1 := o1.below b
  replace p1 := p1.below b
  clear b I2
  go_wp2_with fail
  refine (J2.out _).mono ?_
  rintro e x6 ⟨rfl, b⟩
  have B := B.then b
  replace o1 := o1.below b
  replace p1 := p1.below b
  clear b J2
  go_wp2_with fail
  refine (I3.out _).mono ?_
  rintro e x7 ⟨v3, rfl, o3, b⟩
  have B := B.then b
  replace o1 := o1.below b
  replace p1 := p1.below b
  clear b I3
  go_wp2_with fail
  refine (J3.out _).mono ?_
  rintro e x8 ⟨u3, rfl, p3, b⟩
  have B := B.then b
  replace o1 := o1.below b
  replace p1 := p1.below b
  replace o3 := o3.below b
  clear b J3
  go_wp2_with fail
  refine (I4.out _).mono ?_
  rintro e x9 ⟨rfl, b⟩
  have B := B.then b
  replace o1 := o1.below b
  replace p1 := p1.below b
  replace o3 := o3.below b
  replace p3 := p3.below b
  clear b I4
  go_wp2_with fail
  refine (J4.out _).mono ?_
  rintro e x10 ⟨rfl, b⟩
  have B := B.then b
  replace o1 := o1.below b
  replace p1 := p1.below b
  replace o3 := o3.below b
  replace p3 := p3.below b
  clear b J4
  obtain ⟨va, vc, rfl⟩ := ownS_valueC o1
  obtain ⟨ua, uc, rfl⟩ := ownS_valueC p1
  obtain ⟨ka, kc, rfl⟩ := ownI_valueC o3
  obtain ⟨la, lcp, rfl⟩ := ownI_valueC p3
  go_wp2_with fail
  refine (words5_yes _ _ _ _ L _ o1 p1).mono ?_
  rintro e x11 ⟨rfl, b⟩
  have B := B.then b
  replace o1 := o1.below b
  replace p1 := p1.below b
  replace o3 := o3.below b
  replace p3 := p3.below b
  clear b 
  clear p1
  go_wp2_with fail
  refine (likeInts_yes _ _ _ _ K _ o3 p3).mono ?_
  rintro e x12 ⟨rfl, b⟩
  have B := B.then b
  replace o1 := o1.below b
  replace o3 := o3.below b
  replace p3 := p3.below b
  clear b 
  clear p3
  go_upto_region 14 with fail
  obtain ⟨B1, o1⟩ : ∃ B1, OwnS x12 B1 (.slice va L.length vc) L := ⟨_, o1⟩
  obtain ⟨B3, o3⟩ : ∃ B3, OwnI x12 B3 (.slice ka K.length kc) K := ⟨_, o3⟩
  go_cut [139] from 133 to 139 (fun s139 wc => s139 = .bool (c1 == 0 && decide (0 < x.size)) ∧ OwnS wc B1 (.slice va L.length vc) L ∧ OwnI wc B3 (.slice ka K.length kc) K ∧ Below w.heap.size w wc)
  case first =>
    clear GMY
    by_cases hc : c1 = 0
    · subst hc
      by_cases hs : 0 < x.size
      · have hsi : (x.size : Int) > 0 := by omega
        have hsd : decide (0 < x.size) = true := decide_eq_true hs
        go_wp2_with fail
        go_meet
        case rel => exact ⟨by rw [hsd]; rfl, o1, o3, B⟩
      · have hsi : ¬ (x.size : Int) > 0 := by omega
        have hsd : decide (0 < x.size) = false := decide_eq_false hs
        go_wp2_with fail
        go_meet
        case rel => exact ⟨by rw [hsd]; rfl, o1, o3, B⟩
    · have hcf : (c1 == 0) = false := beq_eq_false_iff_ne.2 hc
      go_wp2_with fail
      go_meet
      case rel => exact ⟨by rw [hcf]; rfl, o1, o3, B⟩
  case rest => as_aux_lemma =>
    obtain ⟨rfl, o1, o3, B⟩ := hcut
    have gt : (c1 == 0 && decide (0 < x.size)) = false ∨ ((c1 == 0 && decide (0 < x.size)) = true ∧ IsW x ∧ 0 < x.size ∧ c1 = 0 ∧ L = cvs x ∧ lt = lc x ∧ c2 = 0 ∧ K = clsL x x.size ∧ sb = decide ((cvs x).length = 1)) := by
      rcases GMY.out with (h | h) | ⟨h1, h2, h3, h4⟩
      · left; rw [beq_eq_false_iff_ne.2 h]; rfl
      · left; rw [h]; simp
      · right
        refine ⟨?_, h1, h2, h3, h4⟩
        rw [h3, decide_eq_true h2]; rfl
    generalize (c1 == 0 && decide (0 < x.size)) = tb at gt ⊢
    have GT := Lib.hid gt
    clear gt GMY
    go_upto_if 139 with fail
    go_cut [4, 6, 12, 14, 20, 21, 22, 23, 24, 25, 26, 27, 28, 29, 30] from 49 to 275 (fun s4 s6 s12 s14 s20 s21 s22 s23 s24 s25 s26 s27 s28 s29 s30 wc => Below w.heap.size w wc)
    case first =>
      rcases GT.out with h | ⟨h, hX, hx0, hc1, hL, hlt, hc2, hK, hsb⟩
      · subst h
        clear GT
        go_wp2_with fail
        go_meet
        case rel => exact B
      · subst h hc1 hL hlt hc2 hK hsb
        clear GT
        obtain ⟨hsr, hl60⟩ := lc_superR hX hx0
        have hx60 := hX.size
        have hlen1 : 0 < (cvs x).length := cvs_pos hx0
        have hlen60 := cvs_len x
        have hKl : (clsL x x.size).length = x.size := clsL_len x x.size
        obtain ⟨g1, d1, hv1, _, hg1, hd1, _, hcell1, _⟩ := o1.row hlen1
        injection hv1 with e1 _ e3
        subst e1 e3
        obtain ⟨g3, d3, hv3, _, hg3, hd3, _, hcell3, _⟩ := o3.row (by rw [hKl]; exact hx0)
        injection hv3 with e1 _ e3
        subst e1 e3
        have k10 : wc.cell? ⟨g1, 0, none⟩ = some (.string (lc x)) := by rw [hcell1 0 hlen1, lc_get hx0]
        have k11 : wc.cell? ⟨g1, (cvs x).length - 1, none⟩ = some (.string x) := by rw [hcell1 _ (by omega), cvs_last hx0]
        have k30 : wc.cell? ⟨g3, x.size - 1, none⟩ = some (.int .i64 ((lc x).size : Int)) := by rw [hcell3 _ (by omega), cls_last hx0]
        have HC1 := Lib.hid (fun (j : Nat) (hj : j < (cvs x).length) => hcell1 j hj)
        have hec := fun (j : Nat) (hj : j < (cvs x).length) => each_cover hX hx0 (List.getElem_mem hj)
        unfold EachC at hec
        have HEC := Lib.hid hec
        clear hec
        have csu := fun w => impl_IsSuperprimitive (lc x) w (by unfold maxLen; omega)
        rw [hsr] at csu
        have CSU := Lib.hid csu
        have hsi := super_iff hx0
        have hbo := fun w => HBO.out w
        rw [bordersR_ok hX] at hbo
        have HBB := Lib.hid hbo
        have hblen := bordsR_len (bl x) x.size
        clear csu hbo HBO hcell1 hcell3 hsr o1 o3
        rw [hKl] at hd3 ⊢
        have hKd : x.size - 1 < vc + x.size := by omega
        generalize hcv : cvs x = L at *
        generalize hlc : lc x = lt at *
        generalize bordsR (bl x) x.size = BO at HBB hblen HEC
        have hsb : (decide (L.length = 1) = true ∧ (lt.toList == x.toList) = true) ∨ (decide (L.length = 1) = false ∧ (lt.toList == x.toList) = false) := by
          by_cases e : lt = x
          · left; exact ⟨decide_eq_true (hsi.2 e), by rw [e]; simp⟩
          · right; exact ⟨decide_eq_false (fun q => e (hsi.1 q)), beq_eq_false_iff_ne.2 (fun q => e (bl_inj (by rw [ByteArray.toList_eq, ByteArray.toList_eq] at q; exact q)))⟩
        have HSB := Lib.hid hsb
        clear hsi hsb hcv hlc
        generalize decide (L.length = 1) = dd at *
        obtain ⟨N, hN⟩ : ∃ N, L.length = N + 1 := ⟨L.length - 1, by omega⟩
        obtain ⟨M, hM⟩ : ∃ M, x.size = M + 1 := ⟨x.size - 1, by omega⟩
        rw [show L.length - 1 = N by omega] at k11
        rw [show x.size - 1 = M by omega] at k30
        have hNM : N + 1 ≤ vc := by omega
        have HNN := Lib.hid hN
        rw [hN, hM]
        have hN60 : N ≤ 61 := by omega
        clear hN hd1 hlen1 hlen60
        go_wp2_with fail
        refine (CSU.out _).mono ?_
        rintro e wz ⟨rfl, b⟩
        have k10z : wz.cell? ⟨g1, 0, none⟩ = some (.string lt) := by rw [(bcell b).1 g1 0 hg1]; exact k10
        have k11z : wz.cell? ⟨g1, N, none⟩ = some (.string x) := by rw [(bcell b).1 g1 N hg1]; exact k11
        have k30z : wz.cell? ⟨g3, M, none⟩ = some (.int .i64 (lt.size : Int)) := by rw [(bcell b).1 g3 M hg3]; exact k30
        have HCZ := Lib.hid (fun (j : Nat) (hj : j < L.length) => (show wz.cell? ⟨g1, j, none⟩ = some (.string (L[j]'hj)) by rw [(bcell b).1 g1 j hg1]; exact HC1.out j hj))
        have hg1z : g1 < wz.heap.size := Nat.lt_of_lt_of_le hg1 b.size
        have BZ := B.then b
        clear b B CSU k10 k11 k30 HC1 hg1 hg3
        rcases HSB.out with ⟨q1, q2⟩ | ⟨q1, q2⟩
        all_goals
          subst q1
          clear HSB
          go_wp2_with fail
          go_loopw [22] (fun s22 wr => ∃ k : Nat, k ≤ N + 1 ∧ s22 = .int .i64 (k : Int) ∧ Below wz.heap.size wz wr ∧ Below w.heap.size w wr) (fun s22 _ => N + 1 - (intOf s22).toNat)
          case atStart => exact ⟨0, Nat.zero_le _, rfl, Below.refl _ _, BZ⟩
          case round =>
            clear k10z k11z k30z BZ
            obtain ⟨k, hk, rfl, bz, B⟩ := hrel
            by_cases hp : k < N + 1
            · have hp2 : k < L.length := by have := HNN.out; omega
              have hlt2 : (k : Int) < ((N + 1 : Nat) : Int) := by omega
              have kz : wr.cell? ⟨g1, k, none⟩ = some (.string (L[k]'hp2)) := by rw [(bcell bz).1 g1 k hg1z]; exact HCZ.out k hp2
              obtain ⟨e1, e2, e3, e4, e5⟩ := HEC.out k hp2
              generalize L[k]'hp2 = z at kz e1 e2 e3 e4 e5
              have sz : z.size ≤ maxLen := by unfold maxLen; omega
              have c1 := fun w => HIC.out z w sz
              have c2 := fun w h => HUN.out z w sz h
              have c3 := fun w => HSD.out z w sz
              rw [e1] at c1
              rw [e2] at c2
              rw [e3] at c3
              have C1 := Lib.hid c1
              have C2 := Lib.hid c2
              have C3 := Lib.hid c3
              have H5 := Lib.hid e5
              have hkc : k < vc := by omega
              have hgr : g1 < wr.heap.size := Nat.lt_of_lt_of_le hg1z bz.size
              clear c1 c2 c3 e1 e2 e3 e5 sz
              go_wp2_with fail
              refine (C1.out _).mono ?_
              rintro e y1 ⟨rfl, b⟩
              have B1' := B.then b
              have bz1 := bz.then b
              have kz1 : y1.cell? ⟨g1, k, none⟩ = some (.string z) := by rw [(bcell b).1 g1 k hgr]; exact kz
              have hgr1 := Nat.lt_of_lt_of_le hgr b.size
              clear b kz B bz C1
              go_wp2_with fail
              refine (C2.out _ ⟨HTT.out.later B1' hw0, by have := B1'.size; omega⟩).mono ?_
              rintro e y2 ⟨v8, rfl, o8, b⟩
              obtain ⟨a8, c8, rfl⟩ := o8.empty
              have B2' := B1'.then b
              have bz2 := bz1.then b
              have kz2 : y2.cell? ⟨g1, k, none⟩ = some (.string z) := by rw [(bcell b).1 g1 k hgr1]; exact kz1
              have hgr2 := Nat.lt_of_lt_of_le hgr1 b.size
              clear b kz1 B1' bz1 C2 o8
              go_wp2_with fail
              refine (C3.out _).mono ?_
              rintro e y3 ⟨rfl, b⟩
              have B3' := B2'.then b
              have bz3 := bz2.then b
              have kz3 : y3.cell? ⟨g1, k, none⟩ = some (.string z) := by rw [(bcell b).1 g1 k hgr2]; exact kz2
              have hgr3 := Nat.lt_of_lt_of_le hgr2 b.size
              clear b kz2 B2' bz2 C3
              go_wp2_with fail
              refine (HBB.out _).mono ?_
              rintro e y4 ⟨v9, rfl, o9, b⟩
              have B4' := B3'.then b
              have bz4 := bz3.then b
              have kz4 : y4.cell? ⟨g1, k, none⟩ = some (.string z) := by rw [(bcell b).1 g1 k hgr3]; exact kz3
              clear b kz3 B3' bz3
              obtain ⟨a9, c9, rfl⟩ := ownI_valueC o9
              by_cases hzx : z = x
              · subst hzx
                have hq : (z.toList == z.toList) = true := by simp
                clear H5 o9
                go_wp2_with fail
                go_roundw
                case rel => exact ⟨k + 1, by omega, by go_num, bz4, B4'⟩
                case measure => simp [intOf]; omega
              · have hne3 : ¬ z.toList = x.toList := fun e => hzx (bl_inj (by rw [ByteArray.toList_eq, ByteArray.toList_eq] at e; exact e))
                have hq : (z.toList == x.toList) = false := beq_eq_false_iff_ne.2 hne3
                have hmem := H5.out hzx
                have CHI := Lib.hid (fun W (b : Below y4.heap.size y4 W) => hasInt_yes _ _ BO ((z.size : Nat) : Int) W (o9.below b) hmem)
                clear H5 hmem
                go_wp2_with fail
                refine (CHI.out _ (by first | exact Below.refl _ _ | exact (Below.refl _ _).drew | exact (Below.refl _ _).drewN _)).mono ?_
                rintro e y5 ⟨rfl, b⟩
                go_wp2_with fail
                go_roundw
                case rel => exact ⟨k + 1, by omega, by go_num, bz4.then b, B4'.then b⟩
                case measure => simp [intOf]; omega
            · have hlt2 : ¬ (k : Int) < ((N + 1 : Nat) : Int) := by omega
              go_wp2_with fail
              go_meet
              case rel => exact B
    case rest => as_aux_lemma =>
      have B := hcut
      clear GT HIC HUN HSD HBO
      go_wp2_with fail
      refine (D2.out _ B).mono ?_
      rintro e y1 ⟨u, vg, Lg, rfl, hu, og, hLg, b⟩
      have B := B.then b
      clear b D2
      have su : u.size ≤ maxLen := by unfold maxLen; omega
      have ci := fun B' v w h => impl_GrowByCover u B' v Lg w su h (by omega)
      have cs := fun B' v w h => spec_GrowByCover u B' v Lg w su h (by omega)
      have gg := gG u Lg
      have HCU := Lib.hid (fun (f : ByteArray) (h : f.size ≤ 60) w => impl_IsCover f u w (by unfold maxLen; omega) su)
      generalize (growCR u Lg).1 = gt at ci cs gg
      generalize (growCR u Lg).2 = c5 at ci cs gg
      have CI := Lib.hid ci
      have CS := Lib.hid cs
      have GG := Lib.hid gg
      clear ci cs gg
      go_wp2_with fail
      refine (CI.out _ _ _ og).mono ?_
      rintro e y2 ⟨rfl, b⟩
      have B := B.then b
      have og := og.below b
      clear b CI
      go_wp2_with fail
      refine (CS.out _ _ _ og).mono ?_
      rintro e y3 ⟨rfl, b⟩
      have B := B.then b
      clear b CS og
      go_upto_if 302 with fail
      go_cut [37, 38] from 303 to 314 (fun s37 s38 wc => Below w.heap.size w wc)
      case first =>
        rcases GG.out with h | ⟨h, h1, h2⟩
        · have hcf : (c5 == 0) = false := beq_eq_false_iff_ne.2 h
          clear GG
          go_wp2_with fail
          go_meet
          case rel => exact B
        · subst h
          have cu := fun w => HCU.out gt h2 w
          rw [h1] at cu
          have CU := Lib.hid cu
          clear cu h1 GG HCU
          go_wp2_with fail
          refine (CU.out _).mono ?_
          rintro e y4 ⟨rfl, b⟩
          have B := B.then b
          clear b
          go_wp2_with fail
          go_meet
          case rel => exact B
      case rest => as_aux_lemma =>
        have B := hcut
        clear GG HCU
        go_wp2_with fail
        refine (D3.out _ B).mono ?_
        rintro e y1 ⟨p, q, rfl, hp, hq, b⟩
        have B := B.then b
        clear b D3
        have sp : p.size ≤ maxLen := by unfold maxLen; omega
        have sq : q.size ≤ maxLen := by unfold maxLen; omega
        have ci := fun w => impl_IsCover p q w sp sq
        have cs := fun w => spec_IsCover p q w sp sq
        have ui := fun w (h : TabZ w ∧ 0 < w.heap.size) => impl_UncoveredPlaces p q w sp sq h.1 h.2
        have us := fun w => spec_UncoveredPlaces p q w sp sq
        unfold RetI at ui us
        have gc := gC p q
        have hul := uncoveredR_len p q
        generalize (isCoverR p q).1 = ya at ci cs gc
        generalize (isCoverR p q).2 = c6 at ci cs gc
        generalize (uncoveredR p q).1 = U at ui us gc hul
        generalize (uncoveredR p q).2 = c7 at ui us
        have CI := Lib.hid ci
        have CS := Lib.hid cs
        have UI := Lib.hid ui
        have US := Lib.hid us
        have GC := Lib.hid gc
        clear ci cs ui us gc
        go_wp2_with fail
        refine (CI.out _).mono ?_
        rintro e y2 ⟨rfl, b⟩
        have B := B.then b
        clear b
        go_wp2_with fail
        refine (CS.out _).mono ?_
        rintro e y3 ⟨rfl, b⟩
        have B := B.then b
        clear b
        go_wp2_with fail
        refine (UI.out _ ⟨HTT.out.later B hw0, by have := B.size; omega⟩).mono ?_
        rintro e y4 ⟨v1, rfl, o1, b⟩
        have B := B.then b
        clear b
        go_wp2_with fail
        refine (US.out _).mono ?_
        rintro e y5 ⟨v2, rfl, o2, b⟩
        have B := B.then b
        replace o1 := o1.below b
        clear b
        obtain ⟨va, vc, rfl⟩ := ownI_valueC o1
        obtain ⟨ua, uc, rfl⟩ := ownI_valueC o2
        rcases GC.out with h | ⟨h, h1⟩
        · have hcf : (c6 == 0) = false := beq_eq_false_iff_ne.2 h
          clear GC
          go_wp2_with fail
          refine (likeInts_yes _ _ _ _ U _ o1 o2).mono ?_
          rintro e y6 ⟨rfl, b⟩
          have B := B.then b
          go_wp2_with fail
          go_ret
          exact ⟨by first | rfl | simp [hcf], B⟩
        · subst h
          rcases h1 with ⟨h2, rfl⟩ | ⟨h2, rfl⟩
          · clear GC
            subst h2
            go_wp2_with fail
            refine (likeInts_yes _ _ _ _ _ _ o1 o2).mono ?_
            rintro e y6 ⟨rfl, b⟩
            have B := B.then b
            go_wp2_with fail
            go_ret
            exact ⟨by first | rfl | simp, B⟩
          · have hnz : ((U.length : Int) == 0) = false := beq_eq_false_iff_ne.2 (by have := List.length_pos_iff.2 h2; omega)
            clear GC
            go_wp2_with fail
            refine (likeInts_yes _ _ _ _ _ _ o1 o2).mono ?_
            rintro e y6 ⟨rfl, b⟩
            have B := B.then b
            go_wp2_with fail
            go_ret
            exact ⟨by first | rfl | simp [hnz], B⟩

theorem own : ownKnob Tryd.prog.godebug = none := by kernel_rfl
theorem laidOut : laidOutB Tryd.prog = true := by kernel_rfl

set_option maxRecDepth 100000 in
theorem lifted (os : Os) (started : os.Started) (H : Type) (enc : TypeId × Value → H) :
    ReturnsInHanded {} Tryd.checked os 7 .any (fun w args => (Rows.fnCoversSpec.pre enc Tryd.prog Tryd.f7 Rows.fnCoversRow.domain false w args ∧ laidMetH Tryd.prog Rows.fnCoversRow.laid w) ∧ sizedMet enc Tryd.prog Tryd.f7 (OpenSpec.ofChange Rows.fnCoversSpec) false w args)
      (Rows.fnCoversSpec.post enc Tryd.prog Tryd.f7 false true false false) := by
  refine returnsInHanded_of_change_and (C := Tryd.checked) (X := fun w _ => laidMetH Tryd.prog Rows.fnCoversRow.laid w) (fun _ _ _ hh h => h.of_heap hh) own started (by kernel_rfl) Tryd.func7
    (ChangeSpec.witness_shaped (enc := enc) (C := Tryd.checked) (os := os) (X := fun w _ => laidMetH Tryd.prog Rows.fnCoversRow.laid w) false (World.laidAll Tryd.prog os Rows.fnCoversRow.laid) #[.slice none 0 0] 8 (World.laidAll_os _ _ _)
      (World.shaped_of_ZipB (by kernel_rfl) (by kernel_rfl)) (by kernel_rfl) (by kernel_rfl) (by kernel_rfl)
      (by rw [MakeChecks.laidMetH_plain _ _ _ (by kernel_rfl)]; exact laidMet_laidAll _ (by kernel_rfl) (by kernel_rfl))) ?_
  intro W base args ds gs before hval0 hW hcnd _ hL _
  obtain ⟨hT, hT0⟩ := tab_of_laid hL
  have hval : ∀ (j : Nat) t v, Tryd.f7.params[j]? = some t → args[j]? = some v → Value.okWide Tryd.prog W .any base t v := hval0
  have hW' := hW
  obtain ⟨p, q, hA0, hV, rfl, hfz, hnd⟩ := hW
  have hA : DataW.TrodAll enc Tryd.prog W 0 (fun _ => true) true Tryd.f7.params.toList args.toList ds p := hA0
  rw [Tryd.params7] at hA hval
  obtain ⟨v0, vs0, d0, ds0, p0, q0, hargs, rfl, rfl, h0, r0⟩ := trodAll_cons hA
  obtain ⟨rfl, rfl, rfl⟩ := trodAll_nil r0
  obtain rfl : args = #[v0] := by cases args; simp_all
  obtain ⟨rfl, rfl⟩ := trodVars_none hV
  obtain ⟨a0, len0, cap0, rfl⟩ := okWide_slice Tryd.underlying40 (hval 0 40 v0 rfl rfl)
  have k0 := h0
  have lt0 : ∀ x ∈ p0, x.block < W.heap.size := by obtain ⟨m, hm⟩ := k0; exact DataW.trod_lt m _ _ _ hm
  obtain ⟨z0, w0⟩ : ∃ zs, IsRow .u8 W a0 len0 cap0 zs := by
    obtain ⟨fuel, hf⟩ := h0
    rcases open_ints Tryd.underlying40 Tryd.underlying5 (by kernel_rfl) hf with ⟨hcs, _⟩ | ⟨x, l, c, zs, hcs, _, hl, hm, hz, _, hcell, hwz⟩
    · simp [Value.cells] at hcs
      obtain ⟨rfl, rfl, rfl⟩ := hcs
      exact ⟨[], .inl ⟨rfl, rfl, rfl, rfl⟩⟩
    · simp [Value.cells] at hcs
      obtain ⟨rfl, rfl, rfl⟩ := hcs
      exact ⟨zs, .inr ⟨_, rfl, hl, hm, by simpa using hz, hcell, hwz⟩⟩
  clear hA0 hval0
  refine (walk a0 len0 cap0 z0 W w0 hT hT0).mono fun e W' ⟨he, bel⟩ => ?_
  subst he
  exact ⟨_, rfl, _, _, _, [], _, [], hW', trodAll_mk1 (shut_bool Tryd.underlying4 _), (trodAll_cons_mk (Below.trod laidOut (by kernel_rfl) (of_decide_eq_true (by kernel_rfl)) k0 bel lt0) trodAll_mk0), rfl, bel.frame _, fun h => by cases h⟩

theorem over : Rows.fnCoversRow.holds Tryd.pinned (OpenSpec.ofChange Rows.fnCoversSpec) :=
  OpenClaim.holds_of_wide 7 Tryd.f7 rfl rfl rfl rfl rfl rfl rfl ⟨rfl, rfl, rfl, rfl, rfl⟩ rfl rfl rfl rfl rfl (by kernel_rfl) Tryd.func7 (by kernel_rfl)
    (of_decide_eq_true (by kernel_rfl)) (by unfold Func.isWrapper; first | (rw [if_pos (by decide +kernel)]; kernel_rfl) | (rw [if_neg (by decide +kernel)]; exact ⟨rfl, rfl⟩))
    (fun os started H enc _ => lifted os started H enc)

theorem proved : Rows.FnCoversCardSaid :=
  Claim7.holds_tied_plain_at .later [] [.data] true _ _ over (fun _ h => by cases h) (by kernel_rfl) (fun _ h => by cases h) fnCovers_row_tie rfl ⟨rfl, rfl⟩ (by kernel_rfl) rfl
    (fun f fn hf hfn => by
      obtain rfl : f = 7 := Option.some.inj ((show Tryd.prog.funcNamed "loop.example/g01371/laws.FnCovers" = some 7 by kernel_rfl).symm.trans hf) |>.symm
      obtain rfl : fn = Tryd.f7 := (Option.some.inj (Tryd.func7.symm.trans hfn)).symm
      exact ⟨by kernel_rfl, fun j t ht => by
        have hall : (Tryd.f7.params.toList.all fun u => !Tryd.prog.wantsStandIn u) = true := by kernel_rfl
        have hm : t ∈ Tryd.f7.params.toList := by simpa using Array.mem_of_getElem? ht
        exact (show Tryd.prog.wantsStandIn t = false by simpa using List.all_eq_true.1 hall t hm)⟩)
    (by kernel_rfl)
#print axioms proved
end Go.Proofs.YtfipbnognjepkaaDoor.fnCovers
