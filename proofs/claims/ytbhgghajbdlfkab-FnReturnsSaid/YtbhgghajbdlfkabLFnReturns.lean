/- For every bytes: return words and gaps, windows, antipowers and common factors hang together, as the model tells. No condition. -/
import Derived.Test.YtbhgghajbdlfkabW7
import Derived.Test.YtbhgghajbdlfkabFnRetPlain
import Derived.Test.YtbhgghajbdlfkabRetsS
import Derived.Test.YtbhgghajbdlfkabGapsS
import Derived.Test.YtbhgghajbdlfkabPlacesI
import Derived.Test.YtbhgghajbdlfkabWinS
import Derived.Test.YtbhgghajbdlfkabFactorsI
import Derived.Test.YtbhgghajbdlfkabAntiI
import Derived.Test.YtbhgghajbdlfkabAntiS
import Derived.Deep.Cut
import Derived.Deep.CutRange
import Derived.Test.YtbhgghajbdlfkabRows
import Derived.WalkKit
import Derived.ProofKit
import Derived.OpenShut
import Derived.ShutString
import Derived.ChangeOld
import Derived.Below
namespace Go.Proofs.Ytbhgghajbdlfkab.fnReturns
open Go.ChangeShapes Go.WideShapes Go.ChangeAt Go.RowKit
open Go.ChangeMaps (open_string shut_string)
set_option linter.unusedVariables false
set_option linter.unusedSimpArgs false

theorem lookS {w : World} {B : Nat} {v : Value} {L : List ByteArray} (h : OwnS w B v L) : ∃ ad cap, v = .slice ad L.length cap ∧ ∀ j (hj : j < L.length), ∃ g, ad = some ⟨g, 0, none⟩ ∧ g < w.heap.size ∧ j < cap ∧ w.cell? ⟨g, j, none⟩ = some (.string (L[j]'hj)) := OwnS.lookH h
theorem take_sum (L : List Int) (k : Nat) (h : k < L.length) : (L.take (k + 1)).sum = (L.take k).sum + L[k]'h := by
  rw [List.take_succ_eq_append_getElem h, List.sum_append]
  simp
theorem take_sum_bd {L : List Int} (h : ∀ z ∈ L, 0 ≤ z ∧ z ≤ 60) : ∀ k, k ≤ L.length → 0 ≤ (L.take k).sum ∧ (L.take k).sum ≤ 60 * k
  | 0, _ => by simp
  | k + 1, hk => by
    have h1 := take_sum_bd h k (by omega)
    have h2 := h _ (List.getElem_mem (show k < L.length by omega))
    rw [take_sum L k (by omega)]
    omega
set_option maxRecDepth 100000 in
theorem sum_same (g c : Nat) (L : List Int) (w : World) (hc : L.length ≤ c) (C : Hid (∀ j (hj : j < L.length), w.cell? ⟨g, j, none⟩ = some (.int .i64 (L[j]'hj)))) (hb : ∀ z ∈ L, 0 ≤ z ∧ z ≤ 60) (hl : L.length ≤ 1000) :
    Calls Try.prog 34 #[.slice (some ⟨g, 0, none⟩) L.length c] w fun e w' => e = .returned (.int .i64 L.sum) ∧ w' = w := by
  have HB := Lib.hid hb
  clear hb
  go_enter Try.func34, Try.ntmps34
  go_wp2
  go_loopw [3, 4] (fun s i wr => ∃ k : Nat, k ≤ L.length ∧ s = .int .i64 (L.take k).sum ∧ i = .int .i64 k ∧ wr = w) (fun _ i _ => L.length - (intOf i).toNat)
  case atStart => exact ⟨0, Nat.zero_le _, by simp, rfl, rfl⟩
  case round =>
    obtain ⟨k, hk, rfl, rfl, rfl⟩ := hrel
    have bd := take_sum_bd HB.out k hk
    by_cases hp : k < L.length
    · have k1 := C.out k hp
      have hs := take_sum L k hp
      have bd2 := HB.out _ (List.getElem_mem hp)
      have hpc : k < c := by omega
      have HS := Lib.hid hs
      clear hs
      generalize (L.take k).sum = s1 at bd HS ⊢
      generalize L[k]'hp = z at k1 bd2 HS
      go_wp2
      go_roundw
      case rel => exact ⟨k + 1, by omega, by rw [HS.out], by go_num, by first | rfl | trivial⟩
      case measure => simp [intOf]; omega
    · have hke : L.take k = L := List.take_of_length_le (by omega)
      rw [hke]
      rw [hke] at bd
      go_wp2
      go_ret
      exact ⟨rfl, rfl⟩

set_option maxRecDepth 100000 in
set_option maxHeartbeats 8000000 in
theorem walk (a0 : Option Addr) (len0 cap0 : Nat) (z0 : List Int) (w : World) (w0 : IsRow .u8 w a0 len0 cap0 z0) :
    Calls Try.prog 6 #[.slice a0 len0 cap0] w fun e w' => e = .returned (.bool true) ∧ Below w.heap.size w w' := by
  by_cases hbig : 4096 < len0
  · have C0 := Lib.hid (big_yes a0 len0 cap0 w hbig)
    clear w0
    go_enter Try.func6, Try.ntmps6
    go_wp2_with fail
    refine C0.out.mono ?_
    rintro e w1 ⟨rfl, b1⟩
    go_wp2_with fail
    go_ret
    exact ⟨rfl, b1⟩
  have hlen : len0 ≤ 1048576 := by omega
  have C0 := Lib.hid (big_no a0 len0 cap0 w (by omega))
  have D1 := Lib.hid (fun (w' : World) (b : Below w.heap.size w w') => DrawReturnWords_any a0 len0 cap0 z0 w' (w0.below b) hlen)
  have D2 := Lib.hid (fun (w' : World) (b : Below w.heap.size w w') => DrawWindowOf_any a0 len0 cap0 z0 w' (w0.below b) hlen)
  have D3 := Lib.hid (fun (w' : World) (b : Below w.heap.size w w') => DrawLongestAntipower_any a0 len0 cap0 z0 w' (w0.below b) hlen)
  have D4 := Lib.hid (fun (w' : World) (b : Below w.heap.size w w') => DrawLongestCommonFactor_any a0 len0 cap0 z0 w' (w0.below b) hlen)
  clear w0 hbig hlen
  go_enter Try.func6, Try.ntmps6
  go_wp2_with fail
  refine C0.out.mono ?_
  rintro e w1 ⟨rfl, B⟩
  clear C0
  go_wp2_with fail
  refine (D1.out _ B).mono ?_
  rintro e w2 ⟨x, u, rfl, hx, hu, b2⟩
  have B := B.then b2
  clear b2 D1
  have sx : x.size ≤ maxLen := by unfold Go.maxLen; omega
  have su : u.size ≤ maxLen := by unfold Go.maxLen; omega
  have hg := fun h => rets_good (x := x) (u := u) h
  have ir := fun w => impl_ReturnWords x u w sx su
  have sr := fun w => spec_ReturnWords x u w sx su
  have ig := fun w => impl_GapsOf x u w sx su
  have sg := fun w => spec_GapsOf x u w sx su
  have ip := fun w => impl_PlacesOf x u w sx su
  generalize (retsR x u).1 = R at hg ir sr
  generalize (retsR x u).2 = c1 at hg ir sr
  generalize gapsR x u = gg at hg ig sg
  generalize placesR x u = pp at hg ip
  have HG := Lib.hid hg
  have IR := Lib.hid ir
  have SR := Lib.hid sr
  have IG := Lib.hid ig
  have SG := Lib.hid sg
  have IP := Lib.hid ip
  clear hg ir sr ig sg ip
  obtain ⟨G, c2⟩ := gg
  dsimp only at IG SG HG
  go_wp2_with fail
  refine (IR.out _).mono ?_
  rintro e w3 ⟨v1, rfl, o1, b3⟩
  have B := B.then b3
  clear b3 IR
  go_wp2_with fail
  refine (SR.out _).mono ?_
  rintro e w4 ⟨v2, rfl, o2, b4⟩
  have B := B.then b4
  have o1 := o1.below b4
  clear b4 SR
  go_wp2_with fail
  refine (IG.out _).mono ?_
  rintro e w5 ⟨v3, rfl, o3, b5⟩
  have B := B.then b5
  have o1 := o1.below b5
  have o2 := o2.below b5
  clear b5 IG
  go_wp2_with fail
  refine (SG.out _).mono ?_
  rintro e w6 ⟨v4, rfl, o4, b6⟩
  have B := B.then b6
  have o1 := o1.below b6
  have o2 := o2.below b6
  have o3 := o3.below b6
  clear b6 SG
  go_wp2_with fail
  refine (words5_yes _ _ _ _ R _ o1 o2).mono ?_
  rintro e w7 ⟨rfl, b7⟩
  have B := B.then b7
  have o1 := o1.below b7
  have o3 := o3.below b7
  have o4 := o4.below b7
  clear b7 o2
  go_wp2_with fail
  refine (likeInts_yes _ _ _ _ G _ o3 o4).mono ?_
  rintro e w8 ⟨rfl, b8⟩
  have B := B.then b8
  have o1 := o1.below b8
  have o3 := o3.below b8
  clear b8 o4
  go_upto_if 104 with fail
  go_cut [13, 14, 15] from 105 to 160 (fun s13 s14 s15 wd => Below w8.heap.size w8 wd)
  case first => as_aux_lemma =>
    by_cases hc : c1 = 0
    · obtain ⟨P, hP2, rfl, hgg, hP61, hRl, hsum, hgb, hrs, hPb⟩ := HG.out hc
      subst hc
      injection hgg with e1 e2
      subst e1 e2
      have hgl := gapsOf_len P
      have IP2 : Hid (∀ w, Calls Try.prog 33 #[.string x, .string u] w (RetI P 0 w)) := IP
      have HRS := Lib.hid hrs
      clear HG IP hrs
      generalize gapsOf P = G at *
      go_wp2_with fail
      refine (IP2.out _).mono ?_
      rintro e w9 ⟨v5, rfl, o5, b9⟩
      have o1 := o1.below b9
      have o3 := o3.below b9
      obtain ⟨ad1, cap1, rfl, look1⟩ := lookS o1
      obtain ⟨g3, cap3, rfl, _, hg3, hc3, _, cell3, _⟩ := o3.row (by omega)
      obtain ⟨g5, cap5, rfl, _, hg5, hc5, _, cell5, _⟩ := o5.row (by omega)
      have p1 := cell5 (P.length - 1) (by omega)
      have p2 := cell5 0 (by omega)
      have bl := hPb _ (List.getElem_mem (show P.length - 1 < P.length by omega))
      have b0 := hPb _ (List.getElem_mem (show 0 < P.length by omega))
      have CS : Hid (∀ n, Calls Try.prog 34 #[.slice (some ⟨g3, 0, none⟩) G.length cap3] (w9.drewN n) fun e w' => e = .returned (.int .i64 G.sum) ∧ w' = w9.drewN n) := Lib.hid fun n => sum_same g3 cap3 G _ hc3 (Lib.hid fun j hj => cell3 j hj) hgb (by omega)
      rw [hsum] at CS
      have K1 := Lib.hid look1
      have O3 := Lib.hid o3
      have q1 : (((G.length : Int) + 1) != (P.length : Int)) = false := by rw [show (G.length : Int) + 1 = (P.length : Int) by omega]; simp
      have hR61 : R.length ≤ 61 := by omega
      have q2 : decide (G.length < R.length) = false := decide_eq_false (by omega)
      have q3 : ((P.length : Int) - 1).toNat = P.length - 1 := by omega
      have q4 : (0 : Int) ≤ (P.length : Int) - 1 := by omega
      have q5 : (1 : Int) ≤ (P.length : Int) := by omega
      have q6 : (P.length : Int) - 1 < (P.length : Int) := by omega
      have q7 : 1 ≤ P.length := by omega
      have q8 : 0 < P.length := by omega
      have q9 : (0 : Int) < (P.length : Int) := by omega
      have wq1 : IntKind.i64.wrap ((G.length : Int) + 1) = (G.length : Int) + 1 := IntWalk.i64_in _ (by omega)
      have wq2 : IntKind.i64.wrap ((P.length : Int) - 1) = (P.length : Int) - 1 := IntWalk.i64_in _ (by omega)
      clear look1 cell3 cell5 o1 o3 o5 hsum hgl
      generalize P[P.length - 1] = pl at *
      generalize P[0] = pz at *
      have wq3 : IntKind.i64.wrap (pl - pz) = pl - pz := IntWalk.i64_in _ (by omega)
      go_wp2
      go_quiet ((go_at_call 34; with_reducible exact Calls.quiet_of_same (CS.out _)))
      go_wp2
      go_loopg [15] R.length (fun g s15 wr => ∃ i : Nat, i + g = R.length ∧ s15 = .int .i64 (i : Int) ∧ Below w8.heap.size w8 wr ∧ Below w9.heap.size w9 wr)
      case atStart => exact ⟨0, by omega, rfl, b9.drewN _, (Below.refl _ _).drewN _⟩
      case round =>
        clear q1 q2 q3 q4 q5 q6 q7 q8 q9 p1 p2 bl b0 wq1 wq2 wq3
        obtain ⟨i, hi, rfl, hB8, hB9⟩ := hrel
        have HI := Lib.hid hi
        by_cases hpi : i < R.length
        · obtain ⟨gq, rfl⟩ : ∃ q, gk = q + 1 := ⟨gk - 1, by omega⟩
          have hii : (i : Int) < (R.length : Int) := by omega
          obtain ⟨g1, rfl, hg1, hic, ic⟩ := K1.out i hpi
          have ci := (bcell hB9).1 g1 i hg1 |>.trans ic
          have HH := Lib.hid fun w (o : OwnI w w4.heap.size (.slice (some ⟨g3, 0, none⟩) G.length cap3) G) => hasInt_yes _ _ G _ w o (HRS.out _ (List.getElem_mem hpi))
          have O4 := Lib.hid (O3.out.below hB9)
          clear ic hi
          generalize R[i]'hpi = r at *
          go_wp2_with fail
          refine (HH.out _ O4.out).mono ?_
          rintro e w10 ⟨rfl, b10⟩
          go_wp2_with fail
          go_roundg gq
          case measure => omega
          case rel => exact ⟨i + 1, by have := HI.out; omega, by go_num, hB8.then b10, hB9.then b10⟩
        · have hii : ¬ (i : Int) < (R.length : Int) := by omega
          go_wp2_with fail
          go_meet
          case rel => exact hB8
    · have hcf : (c1 == 0) = false := beq_eq_false_iff_ne.2 hc
      go_wp2_with fail
      go_meet
      case rel => exact Below.refl _ _
  case rest => as_aux_lemma =>
    have B := B.then hcut
    clear hcut HG IP o1 o3
    go_wp2_with fail
    refine (D2.out _ B).mono ?_
    rintro e x2 ⟨y, m, rfl, hy, wm, b2⟩
    have B := B.then b2
    clear b2 D2
    have sy : y.size ≤ maxLen := by unfold Go.maxLen; omega
    have hg := fun h => win_good (y := y) (m := m) h
    have iw := fun w => impl_WindowOf y m w sy wm
    have sw := fun w => spec_WindowOf y m w sy wm
    have ifm := fun w => impl_FactorsOf y m w sy wm
    have ifk := fun w h => impl_FactorsOf y (winR y m).1 w sy h
    have iff2 := fun (f : ByteArray) w (h : f.size ≤ 60) => impl_FactorsOf f m w (by unfold Go.maxLen; omega) wm
    generalize (winR y m).1 = k at hg iw sw ifk
    generalize (winR y m).2 = c3 at hg iw sw
    have HG := Lib.hid hg
    have IW := Lib.hid iw
    have SW := Lib.hid sw
    have IFM := Lib.hid ifm
    have IFK := Lib.hid ifk
    have IFF := Lib.hid iff2
    clear hg iw sw ifm ifk iff2 wm
    go_wp2_with fail
    refine (IW.out _).mono ?_
    rintro e x3 ⟨rfl, b3⟩
    have B := B.then b3
    clear b3 IW
    go_wp2_with fail
    refine (SW.out _).mono ?_
    rintro e x4 ⟨rfl, b4⟩
    have B := B.then b4
    clear b4 SW
    go_upto_if 187 with fail
    go_cut [22, 23, 24, 25, 26, 27, 28] from 188 to 243 (fun s22 s23 s24 s25 s26 s27 s28 wd => Below x4.heap.size x4 wd)
    case first => as_aux_lemma =>
      by_cases hc : c3 = 0
      · obtain ⟨n, kk, A, L, rfl, rfl, h1, h2, h3, h4, h5, h6, h7, h8⟩ := HG.out hc
        subst hc
        have H8 := Lib.hid h8
        have hkw : (Lit.int .i64 (kk : Int)).wf = true := wf_near (by omega) (by omega)
        have IK := Lib.hid fun w => IFK.out w hkw
        rw [h1] at IFM
        rw [h2] at IK
        dsimp only at IFM IK
        have q1 : decide (kk < n) = false := decide_eq_false (by omega)
        have q2 : decide (y.size < kk) = false := decide_eq_false (by omega)
        clear h1 h2 h8 HG IFK hkw
        go_wp2_with fail
        refine (IFM.out _).mono ?_
        rintro e x5 ⟨v1, rfl, o1, b5⟩
        go_wp2_with fail
        refine (IK.out _).mono ?_
        rintro e x6 ⟨v2, rfl, o2, b6⟩
        have o1 := o1.below b6
        have B6 := b5.then b6
        obtain ⟨ad2, cap2, rfl, look2⟩ := lookS o2
        have K2 := Lib.hid look2
        have O1 := Lib.hid o1
        clear b5 b6 o1 o2 look2
        go_wp2
        go_loopg [26] L.length (fun g s26 wr => ∃ i : Nat, i + g = L.length ∧ s26 = .int .i64 (i : Int) ∧ Below x4.heap.size x4 wr ∧ Below x6.heap.size x6 wr)
        case atStart => exact ⟨0, by omega, rfl, B6, Below.refl _ _⟩
        case round =>
          clear q1 q2 B6
          obtain ⟨i, hi, rfl, hB4, hB6⟩ := hrel
          have HI := Lib.hid hi
          by_cases hpi : i < L.length
          · have hii : (i : Int) < (L.length : Int) := by omega
            by_cases h5i : i < 5
            · have h55 : (i : Int) < 5 := by omega
              obtain ⟨gq, rfl⟩ : ∃ q, gk = q + 1 := ⟨gk - 1, by omega⟩
              obtain ⟨g1, rfl, hg1, hic, ic⟩ := K2.out i hpi
              have ci := (bcell hB6).1 g1 i hg1 |>.trans ic
              obtain ⟨f1, f2⟩ := H8.out _ (List.getElem_mem hpi)
              have FF := fun w => IFF.out (L[i]'hpi) w f1
              rw [f2] at FF
              have F2 := Lib.hid FF
              have O4 := Lib.hid (O1.out.below hB6)
              clear ic hi f1 f2 FF
              generalize L[i]'hpi = f at *
              go_wp2_with fail
              refine (F2.out _).mono ?_
              rintro e x7 ⟨v7, rfl, o7, b7⟩
              have o4 := O4.out.below b7
              go_wp2_with fail
              refine (words5_yes _ _ _ _ A _ o7 o4).mono ?_
              rintro e x8 ⟨rfl, b8⟩
              have C4 := (hB4.then b7).then b8
              have C6 := (hB6.then b7).then b8
              clear o4 o7 b7 b8
              go_wp2_with fail
              go_roundg gq
              case measure => omega
              case rel => exact ⟨i + 1, by have := HI.out; omega, by go_num, C4, C6⟩
            · have h55 : ¬ (i : Int) < 5 := by omega
              go_wp2_with fail
              go_meet
              case rel => exact hB4
          · have hii : ¬ (i : Int) < (L.length : Int) := by omega
            go_wp2_with fail
            go_meet
            case rel => exact hB4
      · have hcf : (c3 == 0) = false := beq_eq_false_iff_ne.2 hc
        go_wp2_with fail
        go_meet
        case rel => exact Below.refl _ _
    case rest => as_aux_lemma =>
      have B := B.then hcut
      clear hcut HG IFM IFK IFF
      go_wp2_with fail
      refine (D3.out _ B).mono ?_
      rintro e y2 ⟨z, m3, rfl, hz, wm, b2⟩
      have B := B.then b2
      clear b2 D3
      have sz : z.size ≤ maxLen := by unfold Go.maxLen; omega
      have hg := fun h => la_good (z := z) (m := m3) h
      have ia := fun w => impl_LongestAntipower z m3 w sz wm
      have sa := fun w => spec_LongestAntipower z m3 w sz wm
      have ifa := fun (i : Int) w hi => impl_FactorAt z i m3 w sz hi wm
      generalize (laR z m3).1 = pi at hg ia sa
      generalize (laR z m3).2.1 = pk at hg ia sa
      generalize (laR z m3).2.2 = c4 at hg ia sa
      have HG := Lib.hid hg
      have IA := Lib.hid ia
      have SA := Lib.hid sa
      have IFA := Lib.hid ifa
      clear hg ia sa ifa wm
      go_wp2_with fail
      refine (IA.out _).mono ?_
      rintro e y3 ⟨rfl, b3⟩
      have B := B.then b3
      clear b3 IA
      go_wp2_with fail
      refine (SA.out _).mono ?_
      rintro e y4 ⟨rfl, b4⟩
      have B := B.then b4
      clear b4 SA
      go_upto_if 277 with fail
      go_cut [37, 38, 39, 40, 41] from 278 to 312 (fun s37 s38 s39 s40 s41 wd => Below y4.heap.size y4 wd)
      case first => as_aux_lemma =>
        by_cases hc : c4 = 0
        · obtain ⟨n, ii, kk, r, rfl, rfl, rfl, h2, h3, h4, h5, h6, h7, h8⟩ := HG.out hc
          subst hc
          have H6 := Lib.hid h6
          have H8 := Lib.hid h8
          obtain ⟨i0, hi0, hz0, hz1, hz2⟩ := info_parts infoStr
          clear h6 h8 HG
          go_wp2
          go_loopg [37, 38] kk (fun g s37 s38 wr => ∃ i : Nat, i + g = kk ∧ s38 = .int .i64 (i : Int) ∧ OwnS wr y4.heap.size s37 (r.take i) ∧ Below y4.heap.size y4 wr)
          case atStart => exact ⟨0, by omega, rfl, World.ownsRow_lit y4 #[] 0 (Nat.le_refl _) (by decide) (by simp), Below.new _ _⟩
          case round =>
            obtain ⟨i, hi, rfl, hO, hB4⟩ := hrel
            have HI := Lib.hid hi
            by_cases hpi : i < kk
            · obtain ⟨gq, rfl⟩ : ∃ q, gk = q + 1 := ⟨gk - 1, by omega⟩
              have hii : (i : Int) < (kk : Int) := by omega
              have hir : i < r.length := by omega
              obtain ⟨f1, f2⟩ := H8.out i hir
              have hwf : (Lit.int .i64 ((ii + i * n : Nat) : Int)).wf = true := wf_near (by omega) (by omega)
              have FA := fun w => IFA.out _ w hwf
              rw [f2] at FA
              have hml : (i : Int) * (n : Int) = ((i * n : Nat) : Int) := by simp
              have hne : Hid (∀ j (h1 : j < r.length) (h2 : j < i), ¬ r[j]'h1 = r[i]'hir) := Lib.hid fun j h1 h2 e => by
                have := (List.pairwise_iff_getElem.1 H6.out) j i h1 hir h2
                exact this e
              have htk : Hid (r.take (i + 1) = r.take i ++ [r[i]'hir]) := Lib.hid (List.take_succ_eq_append_getElem hir)
              have hpl : (r.take i).length = i := by rw [List.length_take]; omega
              have HGT : Hid (∀ j (h1 : j < (r.take i).length), ¬ (r.take i)[j]'h1 = r[i]'hir) := Lib.hid fun j h1 => by
                rw [List.getElem_take]
                exact hne.out j (by rw [hpl] at h1; omega) (by rw [hpl] at h1; exact h1)
              clear hne f2 hwf
              generalize r[i]'hir = t at *
              generalize r.take i = T at *
              generalize i * n = q at *
              have hq2 : q ≤ 60 := by omega
              rw [show ((ii + q : Nat) : Int) = (ii : Int) + (q : Int) by omega] at FA
              have F2 := Lib.hid FA
              have HPL := Lib.hid hpl
              clear FA hi f1 hpl
              go_wp2_with fail
              refine (F2.out _).mono ?_
              rintro e y5 ⟨rfl, b5⟩
              have hO5 := hO.below b5
              have hB5 := hB4.then b5
              clear hO hB4 b5
              obtain ⟨ad, cap, rfl, look⟩ := lookS hO5
              have KL := Lib.hid look
              have HO5 := Lib.hid hO5
              clear look hO5
              go_wp2
              go_loopg [41] T.length (fun g s41 wr' => ∃ j : Nat, j + g = T.length ∧ s41 = .int .i64 (j : Int) ∧ wr' = y5)
              case atStart => exact ⟨0, by omega, rfl, rfl⟩
              case round =>
                obtain ⟨j, hj, rfl, rfl⟩ := hrel
                by_cases hpj : j < T.length
                · obtain ⟨gj, rfl⟩ : ∃ q, gk = q + 1 := ⟨gk - 1, by omega⟩
                  have hjj : (j : Int) < (T.length : Int) := by omega
                  obtain ⟨g1, rfl, hg1, hjc, jc⟩ := KL.out j hpj
                  have ht := teq_no (HGT.out j hpj)
                  have HJ := Lib.hid hj
                  have htl : T.length ≤ 61 := by have := HPL.out; omega
                  clear hj
                  generalize T[j]'hpj = tj at *
                  go_wp2
                  go_roundg gj
                  case measure => omega
                  case rel => exact ⟨j + 1, by have := HJ.out; omega, by go_num, rfl⟩
                · have hjj : ¬ (j : Int) < (T.length : Int) := by omega
                  have hownR := HO5.out
                  unfold OwnS at hownR
                  have hbz := hB5.size
                  have htl : T.length ≤ 61 := by have := HPL.out; omega
                  clear hj
                  go_wp2_with (at_builtin; refine wpList_append_own _ rfl _ _ 36 rfl y4.heap.size 9 i0 (.string ⟨#[]⟩) 1 16 Try.underlying36 hi0 hz0 hz1 hz2 rfl (by decide) _ _ _ rfl (hownR.alloc _) ⟨_, 0, none⟩ 1 1 [.string t] rfl rfl (cell_new _ _ _) (by intro u hu; simp at hu; subst hu; rfl) (by unfold Go.maxLen; omega) (by omega) (by simp; omega) ?_; intro v' y6 hown' hgrow _)
                  have hB6 : Below y4.heap.size y4 y6 := (hB5.alloc hbz _).grown hgrow (by simp; omega) (fun q hq => (hownR.lt q hq).1)
                  go_roundg gq
                  case measure => omega
                  case rel =>
                    refine ⟨i + 1, by have := HI.out; omega, by go_num, ?_, hB6⟩
                    rw [htk.out]
                    unfold OwnS
                    rw [List.length_append, List.map_append]
                    exact hown'
            · have hii : ¬ (i : Int) < (kk : Int) := by omega
              go_wp2
              go_meet
              case rel => exact hB4
        · have hcf : (c4 == 0) = false := beq_eq_false_iff_ne.2 hc
          go_wp2_with fail
          go_meet
          case rel => exact Below.refl _ _
      case rest => as_aux_lemma =>
        have B := B.then hcut
        clear hcut HG IFA
        go_wp2_with fail
        refine (D4.out _ B).mono ?_
        rintro e z2 ⟨a, b, rfl, ha, hb, b2⟩
        have B := B.then b2
        clear b2 D4
        have sa : a.size ≤ maxLen := by unfold Go.maxLen; omega
        have sb : b.size ≤ maxLen := by unfold Go.maxLen; omega
        have hg := fun h => lcf_good (a := a) (b := b) h
        have ia := fun w => impl_LongestCommonFactor a b w sa sb
        have sa2 := fun w => spec_LongestCommonFactor a b w sa sb
        have ip := fun w (h : (lcfR a b).1.size ≤ 60) => impl_PlacesOf a (lcfR a b).1 w sa (by unfold Go.maxLen; omega)
        have iq := fun w (h : (lcfR a b).1.size ≤ 60) => impl_PlacesOf b (lcfR a b).1 w sb (by unfold Go.maxLen; omega)
        generalize (lcfR a b).1 = t at hg ia sa2 ip iq
        generalize (lcfR a b).2 = c5 at hg ia sa2
        have HG := Lib.hid hg
        have IA := Lib.hid ia
        have SA := Lib.hid sa2
        have IP := Lib.hid ip
        have IQ := Lib.hid iq
        clear hg ia sa2 ip iq
        go_wp2_with fail
        refine (IA.out _).mono ?_
        rintro e z3 ⟨rfl, b3⟩
        have B := B.then b3
        clear b3 IA
        go_wp2_with fail
        refine (SA.out _).mono ?_
        rintro e z4 ⟨rfl, b4⟩
        have B := B.then b4
        clear b4 SA
        have hq := teq_yes (a := t) (b := t) rfl
        by_cases hc : c5 = 0
        · obtain ⟨P, Q, h1, h2, h3, h4, h5⟩ := HG.out hc
          subst hc
          have I1 := fun w => IP.out w h5
          have I2 := fun w => IQ.out w h5
          rw [h1] at I1
          rw [h2] at I2
          have J1 := Lib.hid I1
          have J2 := Lib.hid I2
          have hp1 : ¬ (P.length : Int) < 1 := by omega
          have hq1 : ¬ (Q.length : Int) < 1 := by omega
          clear I1 I2 h1 h2 HG IP IQ
          go_wp2_with fail
          refine (J1.out _).mono ?_
          rintro e z5 ⟨v5, rfl, o5, b5⟩
          go_wp2_with fail
          refine (J2.out _).mono ?_
          rintro e z6 ⟨v6, rfl, o6, b6⟩
          obtain ⟨g5, c5, rfl, _⟩ := OwnI.row o5 h3
          obtain ⟨g6, c6, rfl, _⟩ := OwnI.row o6 h4
          have B := (B.then b5).then b6
          clear o5 o6 b5 b6
          go_wp2_with fail
          go_ret
          exact ⟨rfl, B⟩
        · have hcf : (c5 == 0) = false := beq_eq_false_iff_ne.2 hc
          clear HG IP IQ
          go_wp2_with fail
          go_ret
          exact ⟨rfl, B⟩

theorem own : ownKnob Try.prog.godebug = none := by kernel_rfl
theorem laidOut : laidOutB Try.prog = true := by kernel_rfl

set_option maxRecDepth 100000 in
theorem lifted (os : Os) (started : os.Started) (H : Type) (enc : TypeId × Value → H) :
    ReturnsInHanded {} Try.checked os 6 .any (Rows.fnReturnsSpec.pre6 enc Try.prog Try.f6 Rows.fnReturnsRow.domain false) (Rows.fnReturnsSpec.post enc Try.prog Try.f6 false true false false) := by
  refine returnsInHanded_of_change (C := Try.checked) own started (by kernel_rfl) Try.func6
    (ChangeSpec.witness6 (enc := enc) (C := Try.checked) false ⟨#[], #[.slice none 0 0], []⟩ 8 (by kernel_rfl) (by kernel_rfl) (by kernel_rfl) (by kernel_rfl)) ?_
  intro W base args ds gs before hval0 hW hcnd _
  have hval : ∀ (j : Nat) t v, Try.f6.params[j]? = some t → args[j]? = some v → Value.okWide Try.prog W .any base t v := hval0
  have hW' := hW
  obtain ⟨p, q, hA0, hV, rfl, hfz, hnd⟩ := hW
  have hA : DataW.TrodAll enc Try.prog W 0 (fun _ => true) true Try.f6.params.toList args.toList ds p := hA0
  rw [Try.params6] at hA hval
  obtain ⟨v0, vs0, d0, ds0, p0, q0, hargs, rfl, rfl, h0, r0⟩ := trodAll_cons hA
  obtain ⟨rfl, rfl, rfl⟩ := trodAll_nil r0
  obtain rfl : args = #[v0] := by cases args; simp_all
  obtain ⟨rfl, rfl⟩ := trodVars_none hV
  obtain ⟨a0, len0, cap0, rfl⟩ := okWide_slice Try.underlying31 (hval 0 31 v0 rfl rfl)
  have k0 := h0
  have lt0 : ∀ x ∈ p0, x.block < W.heap.size := by obtain ⟨m, hm⟩ := k0; exact DataW.trod_lt m _ _ _ hm
  obtain ⟨z0, w0⟩ : ∃ zs, IsRow .u8 W a0 len0 cap0 zs := by
    obtain ⟨fuel, hf⟩ := h0
    rcases open_ints Try.underlying31 Try.underlying5 (by kernel_rfl) hf with ⟨hcs, _⟩ | ⟨x, l, c, zs, hcs, _, hl, hm, hz, _, hcell, hwz⟩
    · simp [Value.cells] at hcs
      obtain ⟨rfl, rfl, rfl⟩ := hcs
      exact ⟨[], .inl ⟨rfl, rfl, rfl, rfl⟩⟩
    · simp [Value.cells] at hcs
      obtain ⟨rfl, rfl, rfl⟩ := hcs
      exact ⟨zs, .inr ⟨_, rfl, hl, hm, by simpa using hz, hcell, hwz⟩⟩
  clear hA0 hval0
  refine (walk a0 len0 cap0 z0 W w0).mono fun e W' ⟨he, bel⟩ => ?_
  subst he
  exact ⟨_, rfl, _, _, _, [], _, [], hW', trodAll_mk1 (shut_bool Try.underlying4 _), (trodAll_cons_mk (Below.trod laidOut (by kernel_rfl) (of_decide_eq_true (by kernel_rfl)) k0 bel lt0) trodAll_mk0), rfl, bel.frame _, fun h => by cases h⟩

theorem over : Rows.fnReturnsRow.holds Try.pinned (OpenSpec.ofChange Rows.fnReturnsSpec) :=
  OpenClaim.holds_of_wide 6 Try.f6 rfl rfl rfl rfl rfl rfl rfl ⟨rfl, rfl, rfl, rfl, rfl⟩ rfl rfl rfl rfl rfl (by kernel_rfl) Try.func6 (by kernel_rfl)
    (of_decide_eq_true (by kernel_rfl)) (by unfold Func.isWrapper; first | (rw [if_pos (by decide +kernel)]; kernel_rfl) | (rw [if_neg (by decide +kernel)]; exact ⟨rfl, rfl⟩))
    (fun os started H enc _ => lifted os started H enc)

theorem proved : Rows.FnReturnsSaid := over
#print axioms proved

end Go.Proofs.Ytbhgghajbdlfkab.fnReturns
