/- For every list of bytes: least seeds are seeds, of the least length and the first of their length; best borders are borders and leave as many places as told; two words that are found cover together; covers are seeds, as the law asks. Condition: the table of the library that its code reads holds what the program's text lays. -/
import Derived.Test.YtfipbnognjepkaaGreatDoorW22
import Derived.Test.YtfipbnognjepkaaGreatDoorW21
import Derived.Test.YtfipbnognjepkaaGreatDoorW20
import Derived.Test.YtfipbnognjepkaaGreatDoorFnSeedGood
import Derived.Test.YtfipbnognjepkaaGreatDoorRows
import Derived.WalkKit
import Derived.ProofKit
import Derived.OpenShut
import Derived.ShutString
import Derived.ChangeOld
import Derived.Below
import Derived.LaidMore
import Derived.Lay
import Derived.SevenTiedAt
import Derived.Test.YtfipbnognjepkaaGreatDoorCards
import Derived.Test.YtfipbnognjepkaaGreatDoorTie
import Derived.Deep.Cut
import Derived.Deep.CutRange
import Derived.Deep.RegionWith
import Derived.BigQuiet
namespace Go.Proofs.YtfipbnognjepkaaGreatDoor.fnSeeds
open Go.ChangeShapes Go.WideShapes Go.ChangeAt Go.RowKit
open Go.ChangeMaps (open_string shut_string)
set_option linter.unusedVariables false

theorem ownS_valueC {w : World} {B : Nat} {v : Value} {L : List ByteArray} (h : OwnS w B v L) : ∃ a c, v = .slice a L.length c := by
  rcases own_forms h with ⟨rfl, h0, _⟩ | ⟨g, cap, hv, _⟩
  · exact ⟨none, 0, by rw [h0]⟩
  · exact ⟨_, cap, hv⟩
theorem ownI_valueC {w : World} {B : Nat} {v : Value} {L : List Int} (h : OwnI w B v L) : ∃ a c, v = .slice a L.length c := by
  rcases own_forms h with ⟨rfl, h0, _⟩ | ⟨g, cap, hv, _⟩
  · exact ⟨none, 0, by rw [h0]⟩
  · exact ⟨_, cap, hv⟩
theorem below_undrewS {W W' : World} (b : Below W.drew.heap.size W.drew W') : Below W.heap.size W W' := (Below.refl _ _).drew.trans b
theorem gLs (x : ByteArray) : (leastSeedR x).2 ≠ 0 ∨ ((leastSeedR x).2 = 0 ∧ ∃ L, SeedG x (leastSeedR x).1 L ∧ leastCoverR x = (lc x, 0) ∧ (leastSeedR x).1.size ≤ (lc x).size ∧ (lc x).size ≤ 60) := by
  by_cases h : IsW x
  · by_cases k : x.size = 0
    · rw [leastSeedR_empty h k]; exact .inl (by decide)
    · obtain ⟨L, h1, h2⟩ := ls_good h (by omega)
      rw [leastSeedR_ok h k]
      exact .inr ⟨rfl, L, h1, leastCoverR_ok h k, h2, (lc_superR h (by omega)).2⟩
  · rw [leastSeedR_bad h]; exact .inl (by decide)

set_option maxRecDepth 100000 in
set_option maxHeartbeats 16000000 in
theorem walk (a0 : Option Addr) (len0 cap0 : Nat) (z0 : List Int) (w : World) (w0 : IsRow .u8 w a0 len0 cap0 z0) (hT : TabZ w) (hw0 : 0 < w.heap.size) :
    Calls Tryz.prog 4 #[.slice a0 len0 cap0] w fun e w' => e = .returned (.bool true) ∧ Below w.heap.size w w' := by
  have h0 := Lib.hid w0
  have HTT := Lib.hid hT
  clear w0 hT
  by_cases hbig : 4096 < len0
  · clear h0
    have C0 := Lib.hid (big_yes a0 len0 cap0 w hbig)
    go_enter Tryz.func4, Tryz.ntmps4
    go_wp2_with fail
    refine C0.out.mono ?_
    rintro e x0 ⟨rfl, b⟩
    go_wp2_with fail
    go_ret
    exact ⟨rfl, b⟩
  have C0 := Lib.hid (big_no a0 len0 cap0 w (by omega))
  have hl : len0 ≤ 1048576 := by omega
  have DLeastSeed := Lib.hid (fun w' (b : Below w.heap.size w w') => DrawLeastSeed_any a0 len0 cap0 z0 w' (h0.out.below b) hl)
  have DBestBorder := Lib.hid (fun w' (b : Below w.heap.size w w') => DrawBestBorder_any a0 len0 cap0 z0 w' (h0.out.below b) hl)
  have DFirstTwo := Lib.hid (fun w' (b : Below w.heap.size w w') => DrawFirstTwo_any a0 len0 cap0 z0 w' (h0.out.below b) hl)
  have DIsSeed := Lib.hid (fun w' (b : Below w.heap.size w w') => DrawIsSeed_any a0 len0 cap0 z0 w' (h0.out.below b) hl)
  have DSeedsOf := Lib.hid (fun w' (b : Below w.heap.size w w') => DrawSeedsOf_any a0 len0 cap0 z0 w' (h0.out.below b) hl)
  have DCoveredByTwo := Lib.hid (fun w' (b : Below w.heap.size w w') => DrawCoveredByTwo_any a0 len0 cap0 z0 w' (h0.out.below b) hl)
  clear h0
  go_enter Tryz.func4, Tryz.ntmps4
  have B := Below.refl w.heap.size w
  go_wp2_with fail
  refine (C0.out).mono ?_
  rintro e x1 ⟨rfl, b⟩
  have B := B.then b
  clear b C0
  go_wp2_with fail
  refine (DLeastSeed.out _ B).mono ?_
  rintro e x2 ⟨x, rfl, hx, b⟩
  have B := B.then b
  clear b DLeastSeed
  have sx : x.size ≤ maxLen := by unfold maxLen; omega
  have i1 := fun w => impl_LeastSeed x w sx
  have j1 := fun w => spec_LeastSeed x w sx
  have ga := gLs x
  have HSD := Lib.hid (fun z w (sz : z.size ≤ maxLen) => impl_IsSeed x z w sx sz)
  have HLC := Lib.hid (fun w => impl_LeastCover x w sx)
  have HSO := Lib.hid (fun n w (wn : (Lit.int .i64 n).wf = true) => impl_SeedsOf x n w sx wn)
  generalize (leastSeedR x).1 = lt at i1 j1 ga
  generalize (leastSeedR x).2 = c1 at i1 j1 ga
  have I1 := Lib.hid i1
  have J1 := Lib.hid j1
  have GA := Lib.hid ga
  clear i1 j1 ga
  go_wp2_with fail
  refine (I1.out _).mono ?_
  rintro e x3 ⟨rfl, b⟩
  have B := B.then b
  clear b I1
  go_wp2_with fail
  refine (J1.out _).mono ?_
  rintro e x4 ⟨rfl, b⟩
  have B := B.then b
  clear b J1
  go_upto_if 77 with fail
  go_cut [8, 9, 10, 11, 12, 13] from 54 to 128 (fun s8 s9 s10 s11 s12 s13 wc => Below w.heap.size w wc)
  case first =>
    rcases GA.out with h | ⟨h, L, ⟨h1, h2, h3, h4, hL0, hL1⟩, h5, h6, h7⟩
    · have hcf : (c1 == 0) = false := beq_eq_false_iff_ne.2 h
      clear GA
      go_wp2_with fail
      go_meet
      case rel => exact B
  
    · subst h
      have q1 := fun w => HSD.out lt w (by unfold maxLen; omega)
      have q2 := fun w => HLC.out w
      have q3 := fun w => HSO.out ((lt.size : Nat) : Int) w (wf_near9 (by omega) (by omega))
      rw [h1] at q1
      rw [h5] at q2
      rw [h4] at q3
      unfold RetS at q3
      have Q1 := Lib.hid q1
      have Q2 := Lib.hid q2
      have Q3 := Lib.hid q3
      have hle : ¬ (lt.size : Int) > ((lc x).size : Int) := by omega
      have hle2 : ¬ ((lc x).size : Int) < (lt.size : Int) := by omega
      clear q1 q2 q3 h1 h4 h5 GA HSD HLC HSO
      generalize lc x = lcx at *
      go_wp2_with fail
      refine (Q1.out _).mono ?_
      rintro e y1 ⟨rfl, b⟩
      have B := B.then b
      clear b
      go_wp2_with fail
      refine (Q2.out _).mono ?_
      rintro e y2 ⟨rfl, b⟩
      have B := B.then b
      clear b
      go_wp2_with fail
      refine (Q3.out _).mono ?_
      rintro e y3 ⟨v3, rfl, o3, b⟩
      have B := B.then b
      clear b
      obtain ⟨g3, d3, rfl, _, hg3, hd3, _, hcell3, _⟩ := o3.row hL0
      have k3 := hcell3 0 hL0
      rw [hL1] at k3
      have hd0 : 0 < d3 := by omega
      have hl1 : ¬ (L.length : Int) < 1 := by omega
      clear hcell3 o3 hL1
      generalize L.length = ll at *
      go_wp2_with fail
      go_meet
      case rel => exact B
  
  case rest => as_aux_lemma =>
    have B := hcut
    clear GA HSD HLC HSO
    go_wp2_with fail
    refine (DBestBorder.out _ B).mono ?_
    rintro e x5 ⟨x2, rfl, hx2, b⟩
    have B := B.then b
    clear b DBestBorder
    have sx2 : x2.size ≤ maxLen := by unfold maxLen; omega
    have i1 := fun w => impl_BestBorder x2 w sx2
    have j1 := fun w => spec_BestBorder x2 w sx2
    have gb := gBb x2
    have HUN := Lib.hid (fun z w (sz : z.size ≤ maxLen) (h : TabZ w ∧ 0 < w.heap.size) => impl_UncoveredPlaces x2 z w sx2 sz h.1 h.2)
    have HBO := Lib.hid (fun w => impl_BordersOf x2 w sx2)
    generalize (bestR x2).1 = bs at i1 j1 gb
    generalize (bestR x2).2.1 = bn at i1 j1 gb
    generalize (bestR x2).2.2 = c2 at i1 j1 gb
    have I1 := Lib.hid i1
    have J1 := Lib.hid j1
    have GB := Lib.hid gb
    clear i1 j1 gb
    go_wp2_with fail
    refine (I1.out _).mono ?_
    rintro e x6 ⟨rfl, b⟩
    have B := B.then b
    clear b I1
    go_wp2_with fail
    refine (J1.out _).mono ?_
    rintro e x7 ⟨rfl, b⟩
    have B := B.then b
    clear b J1
    go_upto_if 157 with fail
    go_cut [21, 22, 23, 24] from 54 to 190 (fun s21 s22 s23 s24 wc => Below w.heap.size w wc)
    case first =>
      rcases GB.out with h | ⟨h, h1, U, h2, h3, h4, h5⟩
      · have hcf : (c2 == 0) = false := beq_eq_false_iff_ne.2 h
        clear GB
        go_wp2_with fail
        go_meet
        case rel => exact B
    
      · subst h
        have q1 := fun w h => HUN.out bs w (by unfold maxLen; omega) h
        have q2 := fun w => HBO.out w
        rw [h2] at q1
        rw [h4] at q2
        unfold RetI at q1 q2
        have Q1 := Lib.hid q1
        have Q2 := Lib.hid q2
        have HM := Lib.hid h5
        clear q1 q2 h2 h4 h5 GB HUN HBO
        generalize bordsR (bl x2) x2.size = BO at *
        go_wp2_with fail
        refine (Q1.out _ ⟨HTT.out.later B hw0, by have := B.size; omega⟩).mono ?_
        rintro e y1 ⟨v1, rfl, o1, b⟩
        have B := B.then b
        clear b
        obtain ⟨va, vc, rfl⟩ := ownI_valueC o1
        clear o1
        go_wp2_with fail
        refine (Q2.out _).mono ?_
        rintro e y2 ⟨v2, rfl, o2, b⟩
        have B := B.then b
        clear b
        obtain ⟨va2, vc2, rfl⟩ := ownI_valueC o2
        have hcnt := h3
        go_wp2_with fail
        refine (hasInt_yes _ _ BO ((bs.size : Nat) : Int) _ o2 HM.out).mono ?_
        rintro e y3 ⟨rfl, b⟩
        have B := B.then b
        clear b
        go_wp2_with fail
        go_meet
        case rel => exact B
    
    case rest => as_aux_lemma =>
      have B := hcut
      clear GB HUN HBO
      go_wp2_with fail
      refine (DFirstTwo.out _ B).mono ?_
      rintro e x8 ⟨y, m, rfl, hy, wm, b⟩
      have B := B.then b
      clear b DFirstTwo
      have sy : y.size ≤ maxLen := by unfold maxLen; omega
      have i1 := fun w => impl_FirstTwo y m w sy wm
      have j1 := fun w => spec_FirstTwo y m w sy wm
      unfold RetS at i1 j1
      have gf := gFt y m
      have HCT := Lib.hid (fun u v w (su : u.size ≤ maxLen) (sv : v.size ≤ maxLen) => impl_CoveredByTwo y u v w sy su sv)
      generalize (firstTwoR y m).1 = L at i1 j1 gf
      generalize (firstTwoR y m).2 = c3 at i1 j1 gf
      have I1 := Lib.hid i1
      have J1 := Lib.hid j1
      have GF := Lib.hid gf
      clear i1 j1 gf
      go_wp2_with fail
      refine (I1.out _).mono ?_
      rintro e x9 ⟨v1, rfl, o1, b⟩
      have B := B.then b
      clear b I1
      go_wp2_with fail
      refine (J1.out _).mono ?_
      rintro e x10 ⟨v2, rfl, o2, b⟩
      have B := B.then b
      replace o1 := o1.below b
      clear b J1
      obtain ⟨va, vc, rfl⟩ := ownS_valueC o1
      obtain ⟨ua, uc, rfl⟩ := ownS_valueC o2
      go_wp2_with fail
      refine (words5_yes _ _ _ _ L _ o1 o2).mono ?_
      rintro e x11 ⟨rfl, b⟩
      have B := B.then b
      replace o1 := o1.below b
      clear b o2
      go_upto_if 218 with fail
      go_cut [27, 29, 31, 32] from 54 to 244 (fun s27 s29 s31 s32 wc => Below w.heap.size w wc)
      case first =>
        rcases GF.out with h | ⟨h, u, v, h1, h2, h3, h4, h5⟩
        · have hcf : (c3 == 0) = false := beq_eq_false_iff_ne.2 h
          clear GF
          go_wp2_with fail
          go_meet
          case rel => exact B
      
        · subst h h1
          have q1 := fun w => HCT.out u v w (by unfold maxLen; omega) (by unfold maxLen; omega)
          rw [h2] at q1
          have Q1 := Lib.hid q1
          have hln : ([u, v] : List ByteArray).length = 2 := rfl
          obtain ⟨g, d, hv1, _, hg, hd, _, hcell, _⟩ := o1.row (by simp)
          injection hv1 with e1 _ e3
          subst e1 e3
          have k0 := hcell 0 (by simp)
          have k1 := hcell 1 (by simp)
          have k0' : x11.cell? ⟨g, 0, none⟩ = some (.string u) := k0
          have k1' : x11.cell? ⟨g, 1, none⟩ = some (.string v) := k1
          rw [hln] at hd
          have hd0 : 0 < vc := by omega
          have hd1 : 1 < vc := by omega
          have d1 : Op.bytesLess u.toList v.toList = true := by rw [Proofs.bytesLess_eq, ByteArray.toList_eq, ByteArray.toList_eq]; exact decide_eq_true h5
          clear q1 h2 h5 GF HCT hcell o1 k0 k1
          go_wp2_with fail
          go_region_with (go_at_call 40; refine (Q1.out _).mono ?_; rintro e y1 ⟨rfl, b⟩)
          all_goals
            have b9 : Below x11.heap.size x11 y1 := by first | exact b | exact below_undrewS b
            have B := B.then b9
            have k0a : y1.cell? ⟨g, 0, none⟩ = some (.string u) := by rw [(bcell b9).1 g 0 hg]; exact k0'
            have k1a : y1.cell? ⟨g, 1, none⟩ = some (.string v) := by rw [(bcell b9).1 g 1 hg]; exact k1'
            clear b b9 k0' k1'
            go_wp2_with fail
            go_quiet (fail)
            go_wp2_with fail
            go_meet
            case rel => exact B.drewN _
      case rest => as_aux_lemma =>
        have B := hcut
        clear GF HCT
        go_wp2_with fail
        refine (DIsSeed.out _ B).mono ?_
        rintro e x12 ⟨a, b', rfl, ha, hb', b⟩
        have B := B.then b
        clear b DIsSeed
        have sa : a.size ≤ maxLen := by unfold maxLen; omega
        have sb' : b'.size ≤ maxLen := by unfold maxLen; omega
        have i1 := fun w => impl_IsSeed a b' w sa sb'
        have j1 := fun w => spec_IsSeed a b' w sa sb'
        have gs := gSd a b'
        have hco := fun w => impl_IsCover a b' w sa sb'
        generalize (isSeedR a b').1 = sd at i1 j1 gs
        generalize (isSeedR a b').2 = c5 at i1 j1 gs
        generalize (isCoverR a b').1 = cb at hco gs
        generalize (isCoverR a b').2 = c6 at hco gs
        have I1 := Lib.hid i1
        have J1 := Lib.hid j1
        have GS := Lib.hid gs
        have HCO := Lib.hid hco
        clear i1 j1 gs hco
        go_wp2_with fail
        refine (I1.out _).mono ?_
        rintro e x13 ⟨rfl, b⟩
        have B := B.then b
        clear b I1
        go_wp2_with fail
        refine (J1.out _).mono ?_
        rintro e x14 ⟨rfl, b⟩
        have B := B.then b
        clear b J1
        go_wp2_with fail
        refine (DSeedsOf.out _ B).mono ?_
        rintro e x15 ⟨c, k, rfl, hc, wk, b⟩
        have B := B.then b
        clear b DSeedsOf
        have sc : c.size ≤ maxLen := by unfold maxLen; omega
        have i1 := fun w => impl_SeedsOf c k w sc wk
        have j1 := fun w => spec_SeedsOf c k w sc wk
        unfold RetS at i1 j1
        generalize (seedsR c k).1 = L at i1 j1
        generalize (seedsR c k).2 = c7 at i1 j1
        have I1 := Lib.hid i1
        have J1 := Lib.hid j1
        clear i1 j1
        go_wp2_with fail
        refine (I1.out _).mono ?_
        rintro e x16 ⟨v1, rfl, o1, b⟩
        have B := B.then b
        clear b I1
        go_wp2_with fail
        refine (J1.out _).mono ?_
        rintro e x17 ⟨v2, rfl, o2, b⟩
        have B := B.then b
        replace o1 := o1.below b
        clear b J1
        obtain ⟨va, vc, rfl⟩ := ownS_valueC o1
        obtain ⟨ua, uc, rfl⟩ := ownS_valueC o2
        go_wp2_with fail
        refine (DCoveredByTwo.out _ B).mono ?_
        rintro e x18 ⟨d, e', f, rfl, hd, he', hf, b⟩
        have B := B.then b
        replace o1 := o1.below b
        replace o2 := o2.below b
        clear b DCoveredByTwo
        have sd' : d.size ≤ maxLen := by unfold maxLen; omega
        have se' : e'.size ≤ maxLen := by unfold maxLen; omega
        have sf' : f.size ≤ maxLen := by unfold maxLen; omega
        have i1 := fun w => impl_CoveredByTwo d e' f w sd' se' sf'
        have j1 := fun w => spec_CoveredByTwo d e' f w sd' se' sf'
        generalize (coveredByTwoR d e' f).1 = tw at i1 j1
        generalize (coveredByTwoR d e' f).2 = c8 at i1 j1
        have I1 := Lib.hid i1
        have J1 := Lib.hid j1
        clear i1 j1
        go_wp2_with fail
        refine (I1.out _).mono ?_
        rintro e x19 ⟨rfl, b⟩
        have B := B.then b
        replace o1 := o1.below b
        replace o2 := o2.below b
        clear b I1
        go_wp2_with fail
        refine (J1.out _).mono ?_
        rintro e x20 ⟨rfl, b⟩
        have B := B.then b
        replace o1 := o1.below b
        replace o2 := o2.below b
        clear b J1
        go_wp2_with fail
        refine (words5_yes _ _ _ _ L _ o1 o2).mono ?_
        rintro e x21 ⟨rfl, b⟩
        have B := B.then b
        clear b o1 o2
        rcases GS.out with h | ⟨h, h1, h2⟩
        · have hcf : (c5 == 0) = false := beq_eq_false_iff_ne.2 h
          clear GS HCO
          go_wp2_with fail
          go_ret
          exact ⟨rfl, B⟩
        · subst h h1
          clear GS
          go_wp2_with fail
          refine (HCO.out _).mono ?_
          rintro e y1 ⟨rfl, b⟩
          have B := B.then b
          clear b HCO
          cases cb with
          | true =>
            have h3 := h2 rfl
            subst h3
            go_wp2_with fail
            go_ret
            exact ⟨by first | rfl | simp, B⟩
          | false =>
            clear h2
            go_wp2_with fail
            go_ret
            exact ⟨by first | rfl | simp, B⟩

theorem own : ownKnob Tryz.prog.godebug = none := by kernel_rfl
theorem laidOut : laidOutB Tryz.prog = true := by kernel_rfl

set_option maxRecDepth 100000 in
theorem lifted (os : Os) (started : os.Started) (H : Type) (enc : TypeId × Value → H) :
    ReturnsInHanded {} Tryz.checked os 4 .any (fun w args => (Rows.fnSeedsSpec.pre enc Tryz.prog Tryz.f4 Rows.fnSeedsRow.domain false w args ∧ laidMetH Tryz.prog Rows.fnSeedsRow.laid w) ∧ sizedMet enc Tryz.prog Tryz.f4 (OpenSpec.ofChange Rows.fnSeedsSpec) false w args)
      (Rows.fnSeedsSpec.post enc Tryz.prog Tryz.f4 false true false false) := by
  refine returnsInHanded_of_change_and (C := Tryz.checked) (X := fun w _ => laidMetH Tryz.prog Rows.fnSeedsRow.laid w) (fun _ _ _ hh h => h.of_heap hh) own started (by kernel_rfl) Tryz.func4
    (ChangeSpec.witness_shaped (enc := enc) (C := Tryz.checked) (os := os) (X := fun w _ => laidMetH Tryz.prog Rows.fnSeedsRow.laid w) false (World.laidAll Tryz.prog os Rows.fnSeedsRow.laid) #[.slice none 0 0] 8 (World.laidAll_os _ _ _)
      (World.shaped_of_ZipB (by kernel_rfl) (by kernel_rfl)) (by kernel_rfl) (by kernel_rfl) (by kernel_rfl)
      (by rw [MakeChecks.laidMetH_plain _ _ _ (by kernel_rfl)]; exact laidMet_laidAll _ (by kernel_rfl) (by kernel_rfl))) ?_
  intro W base args ds gs before hval0 hW hcnd _ hL _
  obtain ⟨hT, hT0⟩ := tab_of_laid hL
  have hval : ∀ (j : Nat) t v, Tryz.f4.params[j]? = some t → args[j]? = some v → Value.okWide Tryz.prog W .any base t v := hval0
  have hW' := hW
  obtain ⟨p, q, hA0, hV, rfl, hfz, hnd⟩ := hW
  have hA : DataW.TrodAll enc Tryz.prog W 0 (fun _ => true) true Tryz.f4.params.toList args.toList ds p := hA0
  rw [Tryz.params4] at hA hval
  obtain ⟨v0, vs0, d0, ds0, p0, q0, hargs, rfl, rfl, h0, r0⟩ := trodAll_cons hA
  obtain ⟨rfl, rfl, rfl⟩ := trodAll_nil r0
  obtain rfl : args = #[v0] := by cases args; simp_all
  obtain ⟨rfl, rfl⟩ := trodVars_none hV
  obtain ⟨a0, len0, cap0, rfl⟩ := okWide_slice Tryz.underlying22 (hval 0 22 v0 rfl rfl)
  have k0 := h0
  have lt0 : ∀ x ∈ p0, x.block < W.heap.size := by obtain ⟨m, hm⟩ := k0; exact DataW.trod_lt m _ _ _ hm
  obtain ⟨z0, w0⟩ : ∃ zs, IsRow .u8 W a0 len0 cap0 zs := by
    obtain ⟨fuel, hf⟩ := h0
    rcases open_ints Tryz.underlying22 Tryz.underlying5 (by kernel_rfl) hf with ⟨hcs, _⟩ | ⟨x, l, c, zs, hcs, _, hl, hm, hz, _, hcell, hwz⟩
    · simp [Value.cells] at hcs
      obtain ⟨rfl, rfl, rfl⟩ := hcs
      exact ⟨[], .inl ⟨rfl, rfl, rfl, rfl⟩⟩
    · simp [Value.cells] at hcs
      obtain ⟨rfl, rfl, rfl⟩ := hcs
      exact ⟨zs, .inr ⟨_, rfl, hl, hm, by simpa using hz, hcell, hwz⟩⟩
  clear hA0 hval0
  refine (walk a0 len0 cap0 z0 W w0 hT hT0).mono fun e W' ⟨he, bel⟩ => ?_
  subst he
  exact ⟨_, rfl, _, _, _, [], _, [], hW', trodAll_mk1 (shut_bool Tryz.underlying4 _), (trodAll_cons_mk (Below.trod laidOut (by kernel_rfl) (of_decide_eq_true (by kernel_rfl)) k0 bel lt0) trodAll_mk0), rfl, bel.frame _, fun h => by cases h⟩

theorem over : Rows.fnSeedsRow.holds Tryz.pinned (OpenSpec.ofChange Rows.fnSeedsSpec) :=
  OpenClaim.holds_of_wide 4 Tryz.f4 rfl rfl rfl rfl rfl rfl rfl ⟨rfl, rfl, rfl, rfl, rfl⟩ rfl rfl rfl rfl rfl (by kernel_rfl) Tryz.func4 (by kernel_rfl)
    (of_decide_eq_true (by kernel_rfl)) (by unfold Func.isWrapper; first | (rw [if_pos (by decide +kernel)]; kernel_rfl) | (rw [if_neg (by decide +kernel)]; exact ⟨rfl, rfl⟩))
    (fun os started H enc _ => lifted os started H enc)

theorem proved : Rows.FnSeedsCardSaid :=
  Claim7.holds_tied_plain_at .later [] [.data] true _ _ over (fun _ h => by cases h) (by kernel_rfl) (fun _ h => by cases h) fnSeeds_row_tie rfl ⟨rfl, rfl⟩ (by kernel_rfl) rfl
    (fun f fn hf hfn => by
      obtain rfl : f = 4 := Option.some.inj ((show Tryz.prog.funcNamed "loop.example/g01371/laws.FnSeeds" = some 4 by kernel_rfl).symm.trans hf) |>.symm
      obtain rfl : fn = Tryz.f4 := (Option.some.inj (Tryz.func4.symm.trans hfn)).symm
      exact ⟨by kernel_rfl, fun j t ht => by
        have hall : (Tryz.f4.params.toList.all fun u => !Tryz.prog.wantsStandIn u) = true := by kernel_rfl
        have hm : t ∈ Tryz.f4.params.toList := by simpa using Array.mem_of_getElem? ht
        exact (show Tryz.prog.wantsStandIn t = false by simpa using List.all_eq_true.1 hall t hm)⟩)
    (by kernel_rfl)
#print axioms proved
end Go.Proofs.YtfipbnognjepkaaGreatDoor.fnSeeds
