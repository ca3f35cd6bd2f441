/- For every bytes: double words have both periods, and words are products of their Lyndon parts, as the model tells. No condition. -/
import Derived.Test.YthjbdcoklgnnlabW6
import Derived.Test.YthjbdcoklgnnlabFnDwPlain
import Derived.Test.YthjbdcoklgnnlabDwS
import Derived.Test.YthjbdcoklgnnlabJoined
import Derived.Deep.Cut
import Derived.Deep.CutRange
import Derived.Test.YthjbdcoklgnnlabRows
import Derived.WalkKit
import Derived.ProofKit
import Derived.OpenShut
import Derived.ShutString
import Derived.ChangeOld
import Derived.Below
namespace Go.Proofs.Ythjbdcoklgnnlab.fnDoubleWords
open Go.ChangeShapes Go.WideShapes Go.ChangeAt Go.RowKit
open Go.ChangeMaps (open_string shut_string)
set_option linter.unusedVariables false
set_option linter.unusedSimpArgs false

set_option maxRecDepth 100000 in
set_option maxHeartbeats 8000000 in
theorem walk (a0 : Option Addr) (len0 cap0 : Nat) (z0 : List Int) (w : World) (w0 : IsRow .u8 w a0 len0 cap0 z0) :
    Calls Try.prog 6 #[.slice a0 len0 cap0] w fun e w' => e = .returned (.bool true) ∧ Below w.heap.size w w' := by
  by_cases hbig : 4096 < len0
  · have C0 := Lib.hid (big_yes a0 len0 cap0 w hbig)
    clear w0
    go_enter Try.func6, Try.ntmps6
    go_wp2_with fail
    refine C0.out.mono ?_
    rintro e w1 ⟨rfl, b1⟩
    go_wp2_with fail
    go_ret
    exact ⟨rfl, b1⟩
  have hlen : len0 ≤ 1048576 := by omega
  have C0 := Lib.hid (big_no a0 len0 cap0 w (by omega))
  have D1 := Lib.hid (fun (w' : World) (b : Below w.heap.size w w') => DrawDoubleWord_any a0 len0 cap0 z0 w' (w0.below b) hlen)
  have D2 := Lib.hid (fun (w' : World) (b : Below w.heap.size w w') => DrawDoubleLength_any a0 len0 cap0 z0 w' (w0.below b) hlen)
  have D3 := Lib.hid (fun (w' : World) (b : Below w.heap.size w w') => DrawLyndonParts_any a0 len0 cap0 z0 w' (w0.below b) hlen)
  have D4 := Lib.hid (fun (w' : World) (b : Below w.heap.size w w') => DrawIsLyndon_any a0 len0 cap0 z0 w' (w0.below b) hlen)
  clear w0 hbig hlen
  go_enter Try.func6, Try.ntmps6
  go_wp2_with fail
  refine C0.out.mono ?_
  rintro e w1 ⟨rfl, B⟩
  clear C0
  go_wp2_with fail
  refine (D1.out _ B).mono ?_
  rintro e w2 ⟨p, q, rfl, wp, wq, b2⟩
  have B := B.then b2
  clear b2 D1
  have hdw := dw_cases p q
  have i1 := fun w => impl_DoubleWord p q w wp wq
  have s1 := fun w => spec_DoubleWord p q w wp wq
  have i9 := fun w => impl_DoubleLength p q w wp wq
  generalize (dwR p q).1 = x at hdw i1 s1
  generalize (dwR p q).2 = c1 at hdw i1 s1
  have HDW := Lib.hid hdw
  have I1 := Lib.hid i1
  have S1 := Lib.hid s1
  have I9 := Lib.hid i9
  clear hdw i1 s1 i9
  go_wp2_with fail
  refine (I1.out _).mono ?_
  rintro e w3 ⟨rfl, b3⟩
  have B := B.then b3
  clear b3 I1
  go_wp2_with fail
  refine (S1.out _).mono ?_
  rintro e w4 ⟨rfl, b4⟩
  have B := B.then b4
  clear b4 S1
  go_wp2_with fail
  refine (D2.out _ B).mono ?_
  rintro e w5 ⟨m, k, rfl, wm, wk, b5⟩
  have B := B.then b5
  clear b5 D2
  have i2 := fun w => impl_DoubleLength m k w wm wk
  have s2 := fun w => spec_DoubleLength m k w wm wk
  generalize (dlenR m k).1 = r1 at i2 s2
  generalize (dlenR m k).2 = r2 at i2 s2
  have I2 := Lib.hid i2
  have S2 := Lib.hid s2
  clear i2 s2
  go_wp2_with fail
  refine (I2.out _).mono ?_
  rintro e w6 ⟨rfl, b6⟩
  have B := B.then b6
  clear b6 I2
  go_wp2_with fail
  refine (S2.out _).mono ?_
  rintro e w7 ⟨rfl, b7⟩
  have B := B.then b7
  clear b7 S2
  go_wp2_with fail
  refine (D3.out _ B).mono ?_
  rintro e w8 ⟨y, rfl, hy, b8⟩
  have B := B.then b8
  clear b8 D3
  have sy : y.size ≤ maxLen := by unfold Go.maxLen; omega
  have hpt := pt_cases y
  have hpl := lynPR_len y
  have i3 := fun w => impl_LyndonParts y w sy
  have s3 := fun w => spec_LyndonParts y w sy
  generalize (lynPR y).1 = P at hpt i3 s3 hpl
  generalize (lynPR y).2 = c3 at hpt i3 s3
  have HPT := Lib.hid hpt
  have I3 := Lib.hid i3
  have S3 := Lib.hid s3
  clear hpt i3 s3
  go_wp2_with fail
  refine (I3.out _).mono ?_
  rintro e w9 ⟨v1, rfl, o1, b9⟩
  have B := B.then b9
  clear b9 I3
  go_wp2_with fail
  refine (S3.out _).mono ?_
  rintro e w10 ⟨v2, rfl, o2, b10⟩
  have B := B.then b10
  have o1 := o1.below b10
  clear b10 S3
  go_wp2_with fail
  refine (words9_yes _ _ _ _ P _ o1 o2).mono ?_
  rintro e w11 ⟨rfl, b11⟩
  have B := B.then b11
  have o1 := o1.below b11
  clear b11 o2
  go_wp2_with fail
  refine (D4.out _ B).mono ?_
  rintro e w12 ⟨u, rfl, hu, b12⟩
  have B := B.then b12
  have o1 := o1.below b12
  clear b12 D4
  have su : u.size ≤ maxLen := by unfold Go.maxLen; omega
  have hly := lyn_cases u
  have i4 := fun w => impl_IsLyndon u w su
  have s4 := fun w => spec_IsLyndon u w su
  have i5 := fun w => impl_LeastTurned u w su
  have i6 := fun w => impl_CountTurned u w su
  generalize (isLynR u).1 = yes at hly i4 s4
  generalize (isLynR u).2 = c4 at hly i4 s4
  have HLY := Lib.hid hly
  have I4 := Lib.hid i4
  have S4 := Lib.hid s4
  have I5 := Lib.hid i5
  have I6 := Lib.hid i6
  clear hly i4 s4 i5 i6
  go_wp2_with fail
  refine (I4.out _).mono ?_
  rintro e w13 ⟨rfl, b13⟩
  have B := B.then b13
  have o1 := o1.below b13
  clear b13 I4
  go_wp2_with fail
  refine (S4.out _).mono ?_
  rintro e w14 ⟨rfl, b14⟩
  have B := B.then b14
  have o1 := o1.below b14
  clear b14 S4
  have hly2 : (¬ c4 = 0) ∨ (c4 = 0 ∧ yes = false) ∨ (c4 = 0 ∧ yes = true ∧ ltR u = (u, 0, 0) ∧ countTR u = ((u.size : Int), 0)) := by
    rcases HLY.out with h | h
    · by_cases hc : c4 = 0
      · rcases h with h | h
        · exact absurd hc h
        · exact .inr (.inl ⟨hc, h⟩)
      · exact .inl hc
    · exact .inr (.inr h)
  have HLZ := Lib.hid hly2
  clear hly2 HLY
  rcases HLZ.out with hc | ⟨rfl, rfl⟩ | ⟨rfl, rfl, e1, e2⟩
  · clear HLZ I5 I6
    obtain ⟨ad1, cap1, rfl, look1⟩ := o1.lookQ
    have K1 := Lib.hid look1
    have O1 := Lib.hid o1
    clear look1 o1
    go_upto_if 167 with fail
    go_cut [30, 31, 32] from 168 to 207 (fun s30 s31 s32 wd => Below w14.heap.size w14 wd)
    case first => as_aux_lemma =>
      rcases HPT.out with hn | ⟨rfl, hp⟩
      · go_wp2_with fail
        go_meet
        case rel => exact Below.refl _ _
      · have hfl := hp.flat
        have HP := Lib.hid hp
        have CJ := Lib.hid fun (w : World) (B : Nat) (h : OwnS w B (.slice ad1 P.length cap1) P) => joined_any B _ P w h (by have := hp.small; omega) (by omega)
        clear hp
        rw [hfl] at CJ
        have hq := teq_yes (a := y) (b := y) rfl
        clear hfl
        go_wp2_with fail
        refine (CJ.out _ _ O1.out).mono ?_
        rintro e v17 ⟨rfl, d17⟩
        go_wp2_with fail
        go_loopg [30] P.length (fun g s30 wr => ∃ i : Nat, i + g = P.length ∧ s30 = .int .i64 (i : Int) ∧ Below w14.heap.size w14 wr)
        case atStart => exact ⟨0, by omega, rfl, d17⟩
        case round =>
          clear d17 CJ
          obtain ⟨i, hi, rfl, hB⟩ := hrel
          by_cases hpi : i < P.length
          · obtain ⟨gq, rfl⟩ : ∃ q, gk = q + 1 := ⟨gk - 1, by omega⟩
            have hii : (i : Int) < (P.length : Int) := by omega
            obtain ⟨g1, rfl, hg1, hic, ic⟩ := K1.out i hpi
            obtain ⟨l1, l2⟩ := HP.out.lyn i hpi
            have C7 := fun w => impl_IsLyndon (P[i]'hpi) w (by unfold Go.maxLen; omega)
            rw [l1] at C7
            have C8 := Lib.hid C7
            have ci : wr.cell? ⟨g1, i, none⟩ = some (.string (P[i]'hpi)) := by rw [(bcell hB).1 g1 i hg1, ic]
            have HI := Lib.hid hi
            have hg1r : g1 < wr.heap.size := Nat.lt_of_lt_of_le hg1 hB.size
            clear l1 C7 ic hi
            cases i with
            | zero =>
              generalize P[0]'hpi = z at *
              go_wp2_with fail
              refine (C8.out _).mono ?_
              rintro e v18 ⟨rfl, d18⟩
              go_wp2
              go_quiet (fail)
              go_wp2
              go_roundg gq
              case measure => omega
              case rel => exact ⟨1, by have := HI.out; omega, by go_num, (hB.then d18).drewN _⟩
            | succ j =>
              obtain ⟨g2, e6, hg2, hjc, jc⟩ := K1.out j (by omega)
              obtain rfl : g1 = g2 := by injection e6 with e6; injection e6
              have cj : wr.cell? ⟨g1, j, none⟩ = some (.string (P[j]'(by omega))) := by rw [(bcell hB).1 g1 j hg1, jc]
              have hls := less_no (HP.out.asc j hpi)
              have hj0 : decide ((0 : Int) < (j : Int) + 1) = true := decide_eq_true (by omega)
              clear e6 jc
              generalize P[j + 1]'hpi = z at *
              generalize P[j]'(by omega) = z2 at *
              go_wp2_with fail
              refine (C8.out _).mono ?_
              rintro e v18 ⟨rfl, d18⟩
              have ci2 := ((bcell d18).1 g1 (j + 1) hg1r).trans ci
              have cj2 := ((bcell d18).1 g1 j hg1r).trans cj
              clear ci cj
              go_wp2
              go_quiet (fail)
              go_wp2
              go_roundg gq
              case measure => omega
              case rel => exact ⟨j + 1 + 1, by have := HI.out; omega, by go_num, (hB.then d18).drewN _⟩
          · have hii : ¬ (i : Int) < (P.length : Int) := by omega
            go_wp2_with fail
            go_meet
            case rel => exact hB
    case rest => as_aux_lemma =>
      have B := B.then hcut
      clear hcut HPT K1 O1
      rcases HDW.out with ⟨hn, rfl⟩ | ⟨rfl, a, b, hd⟩
      · clear HDW I9
        go_wp2_with fail
        go_ret
        exact ⟨rfl, B⟩
      · clear HDW
        obtain ⟨rfl, rfl, a1, a2, b1, b2, hs, hl, ha, hb⟩ := hd
        have i9 := I9.out
        rw [hl] at i9
        have J9 := Lib.hid i9
        have HA := Lib.hid ha
        have HB := Lib.hid hb
        clear i9 I9 hl ha hb
        go_wp2_with fail
        refine (J9.out _).mono ?_
        rintro e v20 ⟨rfl, d20⟩
        have B := B.then d20
        clear d20 J9
        go_wp2_with fail
        go_loopg [35] x.size (fun g s35 wr => ∃ i : Nat, i + g = x.size ∧ s35 = .int .i64 (i : Int) ∧ Below w.heap.size w wr)
        case atStart => exact ⟨0, by omega, rfl, B⟩
        case round =>
          clear B
          obtain ⟨i, hi, rfl, hB⟩ := hrel
          by_cases hpi : i < x.size
          · obtain ⟨gq, rfl⟩ : ∃ q, gk = q + 1 := ⟨gk - 1, by omega⟩
            have hii : (i : Int) < (x.size : Int) := by omega
            have HI := Lib.hid hi
            have hx0 : ∀ W, (Instr.index 9 (.string x) (.int .i64 (i : Int))).run Try.prog W = .ok (.int .u8 ((x[i]'hpi).toNat : Int)) W := fun W => index_at x _ i hpi rfl W
            have hxa : a ≤ i → ∀ W, (Instr.index 9 (.string x) (.int .i64 ((i : Int) - (a : Int)))).run Try.prog W = .ok (.int .u8 ((x[i]'hpi).toNat : Int)) W := fun h W => by
              rw [HA.out i hpi h]; exact index_at x _ (i - a) (by omega) (by omega) W
            have hxb : b ≤ i → ∀ W, (Instr.index 9 (.string x) (.int .i64 ((i : Int) - (b : Int)))).run Try.prog W = .ok (.int .u8 ((x[i]'hpi).toNat : Int)) W := fun h W => by
              rw [HB.out i hpi h]; exact index_at x _ (i - b) (by omega) (by omega) W
            have hv : ((((x[i]'hpi).toNat : Nat) : Int) == (((x[i]'hpi).toNat : Nat) : Int)) = true := by rw [beq_iff_eq]
            clear hi
            generalize (x[i]'hpi).toNat = v at *
            have wa : IntKind.i64.wrap ((i : Int) - (a : Int)) = (i : Int) - (a : Int) := IntWalk.i64_in _ (by omega)
            have wb : IntKind.i64.wrap ((i : Int) - (b : Int)) = (i : Int) - (b : Int) := IntWalk.i64_in _ (by omega)
            by_cases hai : a ≤ i
            · have had : decide ((a : Int) ≤ (i : Int)) = true := decide_eq_true (by omega)
              have hxa := hxa hai
              by_cases hbi : b ≤ i
              · have hbd : decide ((b : Int) ≤ (i : Int)) = true := decide_eq_true (by omega)
                have hxb := hxb hbi
                go_wp2
                go_quiet (fail)
                go_wp2
                go_roundg gq
                case measure => omega
                case rel => exact ⟨i + 1, by have := HI.out; omega, by go_num, hB.drewN _⟩
              · have hbd : decide ((b : Int) ≤ (i : Int)) = false := decide_eq_false (by omega)
                clear hxb
                go_wp2
                go_quiet (fail)
                go_wp2
                go_roundg gq
                case measure => omega
                case rel => exact ⟨i + 1, by have := HI.out; omega, by go_num, hB.drewN _⟩
            · have had : decide ((a : Int) ≤ (i : Int)) = false := decide_eq_false (by omega)
              clear hxa
              by_cases hbi : b ≤ i
              · have hbd : decide ((b : Int) ≤ (i : Int)) = true := decide_eq_true (by omega)
                have hxb := hxb hbi
                go_wp2
                go_quiet (fail)
                go_wp2
                go_roundg gq
                case measure => omega
                case rel => exact ⟨i + 1, by have := HI.out; omega, by go_num, hB.drewN _⟩
              · have hbd : decide ((b : Int) ≤ (i : Int)) = false := decide_eq_false (by omega)
                clear hxb
                go_wp2
                go_quiet (fail)
                go_wp2
                go_roundg gq
                case measure => omega
                case rel => exact ⟨i + 1, by have := HI.out; omega, by go_num, hB.drewN _⟩
          · have hii : ¬ (i : Int) < (x.size : Int) := by omega
            go_wp2
            go_ret
            exact ⟨rfl, hB⟩
  · clear HLZ I5 I6
    obtain ⟨ad1, cap1, rfl, look1⟩ := o1.lookQ
    have K1 := Lib.hid look1
    have O1 := Lib.hid o1
    clear look1 o1
    go_upto_if 167 with fail
    go_cut [30, 31, 32] from 168 to 207 (fun s30 s31 s32 wd => Below w14.heap.size w14 wd)
    case first => as_aux_lemma =>
      rcases HPT.out with hn | ⟨rfl, hp⟩
      · go_wp2_with fail
        go_meet
        case rel => exact Below.refl _ _
      · have hfl := hp.flat
        have HP := Lib.hid hp
        have CJ := Lib.hid fun (w : World) (B : Nat) (h : OwnS w B (.slice ad1 P.length cap1) P) => joined_any B _ P w h (by have := hp.small; omega) (by omega)
        clear hp
        rw [hfl] at CJ
        have hq := teq_yes (a := y) (b := y) rfl
        clear hfl
        go_wp2_with fail
        refine (CJ.out _ _ O1.out).mono ?_
        rintro e v17 ⟨rfl, d17⟩
        go_wp2_with fail
        go_loopg [30] P.length (fun g s30 wr => ∃ i : Nat, i + g = P.length ∧ s30 = .int .i64 (i : Int) ∧ Below w14.heap.size w14 wr)
        case atStart => exact ⟨0, by omega, rfl, d17⟩
        case round =>
          clear d17 CJ
          obtain ⟨i, hi, rfl, hB⟩ := hrel
          by_cases hpi : i < P.length
          · obtain ⟨gq, rfl⟩ : ∃ q, gk = q + 1 := ⟨gk - 1, by omega⟩
            have hii : (i : Int) < (P.length : Int) := by omega
            obtain ⟨g1, rfl, hg1, hic, ic⟩ := K1.out i hpi
            obtain ⟨l1, l2⟩ := HP.out.lyn i hpi
            have C7 := fun w => impl_IsLyndon (P[i]'hpi) w (by unfold Go.maxLen; omega)
            rw [l1] at C7
            have C8 := Lib.hid C7
            have ci : wr.cell? ⟨g1, i, none⟩ = some (.string (P[i]'hpi)) := by rw [(bcell hB).1 g1 i hg1, ic]
            have HI := Lib.hid hi
            have hg1r : g1 < wr.heap.size := Nat.lt_of_lt_of_le hg1 hB.size
            clear l1 C7 ic hi
            cases i with
            | zero =>
              generalize P[0]'hpi = z at *
              go_wp2_with fail
              refine (C8.out _).mono ?_
              rintro e v18 ⟨rfl, d18⟩
              go_wp2
              go_quiet (fail)
              go_wp2
              go_roundg gq
              case measure => omega
              case rel => exact ⟨1, by have := HI.out; omega, by go_num, (hB.then d18).drewN _⟩
            | succ j =>
              obtain ⟨g2, e6, hg2, hjc, jc⟩ := K1.out j (by omega)
              obtain rfl : g1 = g2 := by injection e6 with e6; injection e6
              have cj : wr.cell? ⟨g1, j, none⟩ = some (.string (P[j]'(by omega))) := by rw [(bcell hB).1 g1 j hg1, jc]
              have hls := less_no (HP.out.asc j hpi)
              have hj0 : decide ((0 : Int) < (j : Int) + 1) = true := decide_eq_true (by omega)
              clear e6 jc
              generalize P[j + 1]'hpi = z at *
              generalize P[j]'(by omega) = z2 at *
              go_wp2_with fail
              refine (C8.out _).mono ?_
              rintro e v18 ⟨rfl, d18⟩
              have ci2 := ((bcell d18).1 g1 (j + 1) hg1r).trans ci
              have cj2 := ((bcell d18).1 g1 j hg1r).trans cj
              clear ci cj
              go_wp2
              go_quiet (fail)
              go_wp2
              go_roundg gq
              case measure => omega
              case rel => exact ⟨j + 1 + 1, by have := HI.out; omega, by go_num, (hB.then d18).drewN _⟩
          · have hii : ¬ (i : Int) < (P.length : Int) := by omega
            go_wp2_with fail
            go_meet
            case rel => exact hB
    case rest => as_aux_lemma =>
      have B := B.then hcut
      clear hcut HPT K1 O1
      rcases HDW.out with ⟨hn, rfl⟩ | ⟨rfl, a, b, hd⟩
      · clear HDW I9
        go_wp2_with fail
        go_ret
        exact ⟨rfl, B⟩
      · clear HDW
        obtain ⟨rfl, rfl, a1, a2, b1, b2, hs, hl, ha, hb⟩ := hd
        have i9 := I9.out
        rw [hl] at i9
        have J9 := Lib.hid i9
        have HA := Lib.hid ha
        have HB := Lib.hid hb
        clear i9 I9 hl ha hb
        go_wp2_with fail
        refine (J9.out _).mono ?_
        rintro e v20 ⟨rfl, d20⟩
        have B := B.then d20
        clear d20 J9
        go_wp2_with fail
        go_loopg [35] x.size (fun g s35 wr => ∃ i : Nat, i + g = x.size ∧ s35 = .int .i64 (i : Int) ∧ Below w.heap.size w wr)
        case atStart => exact ⟨0, by omega, rfl, B⟩
        case round =>
          clear B
          obtain ⟨i, hi, rfl, hB⟩ := hrel
          by_cases hpi : i < x.size
          · obtain ⟨gq, rfl⟩ : ∃ q, gk = q + 1 := ⟨gk - 1, by omega⟩
            have hii : (i : Int) < (x.size : Int) := by omega
            have HI := Lib.hid hi
            have hx0 : ∀ W, (Instr.index 9 (.string x) (.int .i64 (i : Int))).run Try.prog W = .ok (.int .u8 ((x[i]'hpi).toNat : Int)) W := fun W => index_at x _ i hpi rfl W
            have hxa : a ≤ i → ∀ W, (Instr.index 9 (.string x) (.int .i64 ((i : Int) - (a : Int)))).run Try.prog W = .ok (.int .u8 ((x[i]'hpi).toNat : Int)) W := fun h W => by
              rw [HA.out i hpi h]; exact index_at x _ (i - a) (by omega) (by omega) W
            have hxb : b ≤ i → ∀ W, (Instr.index 9 (.string x) (.int .i64 ((i : Int) - (b : Int)))).run Try.prog W = .ok (.int .u8 ((x[i]'hpi).toNat : Int)) W := fun h W => by
              rw [HB.out i hpi h]; exact index_at x _ (i - b) (by omega) (by omega) W
            have hv : ((((x[i]'hpi).toNat : Nat) : Int) == (((x[i]'hpi).toNat : Nat) : Int)) = true := by rw [beq_iff_eq]
            clear hi
            generalize (x[i]'hpi).toNat = v at *
            have wa : IntKind.i64.wrap ((i : Int) - (a : Int)) = (i : Int) - (a : Int) := IntWalk.i64_in _ (by omega)
            have wb : IntKind.i64.wrap ((i : Int) - (b : Int)) = (i : Int) - (b : Int) := IntWalk.i64_in _ (by omega)
            by_cases hai : a ≤ i
            · have had : decide ((a : Int) ≤ (i : Int)) = true := decide_eq_true (by omega)
              have hxa := hxa hai
              by_cases hbi : b ≤ i
              · have hbd : decide ((b : Int) ≤ (i : Int)) = true := decide_eq_true (by omega)
                have hxb := hxb hbi
                go_wp2
                go_quiet (fail)
                go_wp2
                go_roundg gq
                case measure => omega
                case rel => exact ⟨i + 1, by have := HI.out; omega, by go_num, hB.drewN _⟩
              · have hbd : decide ((b : Int) ≤ (i : Int)) = false := decide_eq_false (by omega)
                clear hxb
                go_wp2
                go_quiet (fail)
                go_wp2
                go_roundg gq
                case measure => omega
                case rel => exact ⟨i + 1, by have := HI.out; omega, by go_num, hB.drewN _⟩
            · have had : decide ((a : Int) ≤ (i : Int)) = false := decide_eq_false (by omega)
              clear hxa
              by_cases hbi : b ≤ i
              · have hbd : decide ((b : Int) ≤ (i : Int)) = true := decide_eq_true (by omega)
                have hxb := hxb hbi
                go_wp2
                go_quiet (fail)
                go_wp2
                go_roundg gq
                case measure => omega
                case rel => exact ⟨i + 1, by have := HI.out; omega, by go_num, hB.drewN _⟩
              · have hbd : decide ((b : Int) ≤ (i : Int)) = false := decide_eq_false (by omega)
                clear hxb
                go_wp2
                go_quiet (fail)
                go_wp2
                go_roundg gq
                case measure => omega
                case rel => exact ⟨i + 1, by have := HI.out; omega, by go_num, hB.drewN _⟩
          · have hii : ¬ (i : Int) < (x.size : Int) := by omega
            go_wp2
            go_ret
            exact ⟨rfl, hB⟩
  · have i5 := I5.out
    have i6 := I6.out
    rw [e1] at i5
    rw [e2] at i6
    have J5 := Lib.hid i5
    have J6 := Lib.hid i6
    have hq := teq_yes (a := u) (b := u) rfl
    clear i5 i6 I5 I6 e1 e2 HLZ
    go_wp2_with fail
    refine (J5.out _).mono ?_
    rintro e v15 ⟨rfl, d15⟩
    have B := B.then d15
    have o1 := o1.below d15
    go_wp2_with fail
    refine (J6.out _).mono ?_
    rintro e v16 ⟨rfl, d16⟩
    have B := B.then d16
    have o1 := o1.below d16
    clear d15 d16 J5 J6
    obtain ⟨ad1, cap1, rfl, look1⟩ := o1.lookQ
    have K1 := Lib.hid look1
    have O1 := Lib.hid o1
    clear look1 o1
    go_upto_if 167 with fail
    go_cut [30, 31, 32] from 168 to 207 (fun s30 s31 s32 wd => Below v16.heap.size v16 wd)
    case first => as_aux_lemma =>
      rcases HPT.out with hn | ⟨rfl, hp⟩
      · go_wp2_with fail
        go_meet
        case rel => exact Below.refl _ _
      · have hfl := hp.flat
        have HP := Lib.hid hp
        have CJ := Lib.hid fun (w : World) (B : Nat) (h : OwnS w B (.slice ad1 P.length cap1) P) => joined_any B _ P w h (by have := hp.small; omega) (by omega)
        clear hp
        rw [hfl] at CJ
        have hq := teq_yes (a := y) (b := y) rfl
        clear hfl
        go_wp2_with fail
        refine (CJ.out _ _ O1.out).mono ?_
        rintro e v17 ⟨rfl, d17⟩
        go_wp2_with fail
        go_loopg [30] P.length (fun g s30 wr => ∃ i : Nat, i + g = P.length ∧ s30 = .int .i64 (i : Int) ∧ Below v16.heap.size v16 wr)
        case atStart => exact ⟨0, by omega, rfl, d17⟩
        case round =>
          clear d17 CJ
          obtain ⟨i, hi, rfl, hB⟩ := hrel
          by_cases hpi : i < P.length
          · obtain ⟨gq, rfl⟩ : ∃ q, gk = q + 1 := ⟨gk - 1, by omega⟩
            have hii : (i : Int) < (P.length : Int) := by omega
            obtain ⟨g1, rfl, hg1, hic, ic⟩ := K1.out i hpi
            obtain ⟨l1, l2⟩ := HP.out.lyn i hpi
            have C7 := fun w => impl_IsLyndon (P[i]'hpi) w (by unfold Go.maxLen; omega)
            rw [l1] at C7
            have C8 := Lib.hid C7
            have ci : wr.cell? ⟨g1, i, none⟩ = some (.string (P[i]'hpi)) := by rw [(bcell hB).1 g1 i hg1, ic]
            have HI := Lib.hid hi
            have hg1r : g1 < wr.heap.size := Nat.lt_of_lt_of_le hg1 hB.size
            clear l1 C7 ic hi
            cases i with
            | zero =>
              generalize P[0]'hpi = z at *
              go_wp2_with fail
              refine (C8.out _).mono ?_
              rintro e v18 ⟨rfl, d18⟩
              go_wp2
              go_quiet (fail)
              go_wp2
              go_roundg gq
              case measure => omega
              case rel => exact ⟨1, by have := HI.out; omega, by go_num, (hB.then d18).drewN _⟩
            | succ j =>
              obtain ⟨g2, e6, hg2, hjc, jc⟩ := K1.out j (by omega)
              obtain rfl : g1 = g2 := by injection e6 with e6; injection e6
              have cj : wr.cell? ⟨g1, j, none⟩ = some (.string (P[j]'(by omega))) := by rw [(bcell hB).1 g1 j hg1, jc]
              have hls := less_no (HP.out.asc j hpi)
              have hj0 : decide ((0 : Int) < (j : Int) + 1) = true := decide_eq_true (by omega)
              clear e6 jc
              generalize P[j + 1]'hpi = z at *
              generalize P[j]'(by omega) = z2 at *
              go_wp2_with fail
              refine (C8.out _).mono ?_
              rintro e v18 ⟨rfl, d18⟩
              have ci2 := ((bcell d18).1 g1 (j + 1) hg1r).trans ci
              have cj2 := ((bcell d18).1 g1 j hg1r).trans cj
              clear ci cj
              go_wp2
              go_quiet (fail)
              go_wp2
              go_roundg gq
              case measure => omega
              case rel => exact ⟨j + 1 + 1, by have := HI.out; omega, by go_num, (hB.then d18).drewN _⟩
          · have hii : ¬ (i : Int) < (P.length : Int) := by omega
            go_wp2_with fail
            go_meet
            case rel => exact hB
    case rest => as_aux_lemma =>
      have B := B.then hcut
      clear hcut HPT K1 O1
      rcases HDW.out with ⟨hn, rfl⟩ | ⟨rfl, a, b, hd⟩
      · clear HDW I9
        go_wp2_with fail
        go_ret
        exact ⟨rfl, B⟩
      · clear HDW
        obtain ⟨rfl, rfl, a1, a2, b1, b2, hs, hl, ha, hb⟩ := hd
        have i9 := I9.out
        rw [hl] at i9
        have J9 := Lib.hid i9
        have HA := Lib.hid ha
        have HB := Lib.hid hb
        clear i9 I9 hl ha hb
        go_wp2_with fail
        refine (J9.out _).mono ?_
        rintro e v20 ⟨rfl, d20⟩
        have B := B.then d20
        clear d20 J9
        go_wp2_with fail
        go_loopg [35] x.size (fun g s35 wr => ∃ i : Nat, i + g = x.size ∧ s35 = .int .i64 (i : Int) ∧ Below w.heap.size w wr)
        case atStart => exact ⟨0, by omega, rfl, B⟩
        case round =>
          clear B
          obtain ⟨i, hi, rfl, hB⟩ := hrel
          by_cases hpi : i < x.size
          · obtain ⟨gq, rfl⟩ : ∃ q, gk = q + 1 := ⟨gk - 1, by omega⟩
            have hii : (i : Int) < (x.size : Int) := by omega
            have HI := Lib.hid hi
            have hx0 : ∀ W, (Instr.index 9 (.string x) (.int .i64 (i : Int))).run Try.prog W = .ok (.int .u8 ((x[i]'hpi).toNat : Int)) W := fun W => index_at x _ i hpi rfl W
            have hxa : a ≤ i → ∀ W, (Instr.index 9 (.string x) (.int .i64 ((i : Int) - (a : Int)))).run Try.prog W = .ok (.int .u8 ((x[i]'hpi).toNat : Int)) W := fun h W => by
              rw [HA.out i hpi h]; exact index_at x _ (i - a) (by omega) (by omega) W
            have hxb : b ≤ i → ∀ W, (Instr.index 9 (.string x) (.int .i64 ((i : Int) - (b : Int)))).run Try.prog W = .ok (.int .u8 ((x[i]'hpi).toNat : Int)) W := fun h W => by
              rw [HB.out i hpi h]; exact index_at x _ (i - b) (by omega) (by omega) W
            have hv : ((((x[i]'hpi).toNat : Nat) : Int) == (((x[i]'hpi).toNat : Nat) : Int)) = true := by rw [beq_iff_eq]
            clear hi
            generalize (x[i]'hpi).toNat = v at *
            have wa : IntKind.i64.wrap ((i : Int) - (a : Int)) = (i : Int) - (a : Int) := IntWalk.i64_in _ (by omega)
            have wb : IntKind.i64.wrap ((i : Int) - (b : Int)) = (i : Int) - (b : Int) := IntWalk.i64_in _ (by omega)
            by_cases hai : a ≤ i
            · have had : decide ((a : Int) ≤ (i : Int)) = true := decide_eq_true (by omega)
              have hxa := hxa hai
              by_cases hbi : b ≤ i
              · have hbd : decide ((b : Int) ≤ (i : Int)) = true := decide_eq_true (by omega)
                have hxb := hxb hbi
                go_wp2
                go_quiet (fail)
                go_wp2
                go_roundg gq
                case measure => omega
                case rel => exact ⟨i + 1, by have := HI.out; omega, by go_num, hB.drewN _⟩
              · have hbd : decide ((b : Int) ≤ (i : Int)) = false := decide_eq_false (by omega)
                clear hxb
                go_wp2
                go_quiet (fail)
                go_wp2
                go_roundg gq
                case measure => omega
                case rel => exact ⟨i + 1, by have := HI.out; omega, by go_num, hB.drewN _⟩
            · have had : decide ((a : Int) ≤ (i : Int)) = false := decide_eq_false (by omega)
              clear hxa
              by_cases hbi : b ≤ i
              · have hbd : decide ((b : Int) ≤ (i : Int)) = true := decide_eq_true (by omega)
                have hxb := hxb hbi
                go_wp2
                go_quiet (fail)
                go_wp2
                go_roundg gq
                case measure => omega
                case rel => exact ⟨i + 1, by have := HI.out; omega, by go_num, hB.drewN _⟩
              · have hbd : decide ((b : Int) ≤ (i : Int)) = false := decide_eq_false (by omega)
                clear hxb
                go_wp2
                go_quiet (fail)
                go_wp2
                go_roundg gq
                case measure => omega
                case rel => exact ⟨i + 1, by have := HI.out; omega, by go_num, hB.drewN _⟩
          · have hii : ¬ (i : Int) < (x.size : Int) := by omega
            go_wp2
            go_ret
            exact ⟨rfl, hB⟩

theorem own : ownKnob Try.prog.godebug = none := by kernel_rfl
theorem laidOut : laidOutB Try.prog = true := by kernel_rfl

set_option maxRecDepth 100000 in
theorem lifted (os : Os) (started : os.Started) (H : Type) (enc : TypeId × Value → H) :
    ReturnsInHanded {} Try.checked os 6 .any (Rows.fnDoubleWordsSpec.pre6 enc Try.prog Try.f6 Rows.fnDoubleWordsRow.domain false) (Rows.fnDoubleWordsSpec.post enc Try.prog Try.f6 false true false false) := by
  refine returnsInHanded_of_change (C := Try.checked) own started (by kernel_rfl) Try.func6
    (ChangeSpec.witness6 (enc := enc) (C := Try.checked) false ⟨#[], #[.slice none 0 0], []⟩ 8 (by kernel_rfl) (by kernel_rfl) (by kernel_rfl) (by kernel_rfl)) ?_
  intro W base args ds gs before hval0 hW hcnd _
  have hval : ∀ (j : Nat) t v, Try.f6.params[j]? = some t → args[j]? = some v → Value.okWide Try.prog W .any base t v := hval0
  have hW' := hW
  obtain ⟨p, q, hA0, hV, rfl, hfz, hnd⟩ := hW
  have hA : DataW.TrodAll enc Try.prog W 0 (fun _ => true) true Try.f6.params.toList args.toList ds p := hA0
  rw [Try.params6] at hA hval
  obtain ⟨v0, vs0, d0, ds0, p0, q0, hargs, rfl, rfl, h0, r0⟩ := trodAll_cons hA
  obtain ⟨rfl, rfl, rfl⟩ := trodAll_nil r0
  obtain rfl : args = #[v0] := by cases args; simp_all
  obtain ⟨rfl, rfl⟩ := trodVars_none hV
  obtain ⟨a0, len0, cap0, rfl⟩ := okWide_slice Try.underlying31 (hval 0 31 v0 rfl rfl)
  have k0 := h0
  have lt0 : ∀ x ∈ p0, x.block < W.heap.size := by obtain ⟨m, hm⟩ := k0; exact DataW.trod_lt m _ _ _ hm
  obtain ⟨z0, w0⟩ : ∃ zs, IsRow .u8 W a0 len0 cap0 zs := by
    obtain ⟨fuel, hf⟩ := h0
    rcases open_ints Try.underlying31 Try.underlying5 (by kernel_rfl) hf with ⟨hcs, _⟩ | ⟨x, l, c, zs, hcs, _, hl, hm, hz, _, hcell, hwz⟩
    · simp [Value.cells] at hcs
      obtain ⟨rfl, rfl, rfl⟩ := hcs
      exact ⟨[], .inl ⟨rfl, rfl, rfl, rfl⟩⟩
    · simp [Value.cells] at hcs
      obtain ⟨rfl, rfl, rfl⟩ := hcs
      exact ⟨zs, .inr ⟨_, rfl, hl, hm, by simpa using hz, hcell, hwz⟩⟩
  clear hA0 hval0
  refine (walk a0 len0 cap0 z0 W w0).mono fun e W' ⟨he, bel⟩ => ?_
  subst he
  exact ⟨_, rfl, _, _, _, [], _, [], hW', trodAll_mk1 (shut_bool Try.underlying4 _), (trodAll_cons_mk (Below.trod laidOut (by kernel_rfl) (of_decide_eq_true (by kernel_rfl)) k0 bel lt0) trodAll_mk0), rfl, bel.frame _, fun h => by cases h⟩

theorem over : Rows.fnDoubleWordsRow.holds Try.pinned (OpenSpec.ofChange Rows.fnDoubleWordsSpec) :=
  OpenClaim.holds_of_wide 6 Try.f6 rfl rfl rfl rfl rfl rfl rfl ⟨rfl, rfl, rfl, rfl, rfl⟩ rfl rfl rfl rfl rfl (by kernel_rfl) Try.func6 (by kernel_rfl)
    (of_decide_eq_true (by kernel_rfl)) (by unfold Func.isWrapper; first | (rw [if_pos (by decide +kernel)]; kernel_rfl) | (rw [if_neg (by decide +kernel)]; exact ⟨rfl, rfl⟩))
    (fun os started H enc _ => lifted os started H enc)

theorem proved : Rows.FnDoubleWordsSaid := over
#print axioms proved

end Go.Proofs.Ythjbdcoklgnnlab.fnDoubleWords
