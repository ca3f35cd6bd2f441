/- For every bytes: what the program says of the powers, overlaps, squares and runs of the drawn words is as the model tells, and hangs together. No condition. -/
import Derived.Test.YtkemdiefoohdjabGreatW12
import Derived.Test.YtkemdiefoohdjabGreatW13
import Derived.Test.YtkemdiefoohdjabGreatSquares
import Derived.Test.YtkemdiefoohdjabGreatSquaresS
import Derived.Test.YtkemdiefoohdjabGreatPairs
import Derived.Test.YtkemdiefoohdjabGreatPowersS
import Derived.Test.YtkemdiefoohdjabGreatSq
import Derived.Test.YtkemdiefoohdjabGreatFactor
import Derived.Test.YtkemdiefoohdjabGreatLeave
import Derived.WalkKit
import Derived.ProofKit
import Derived.OpenShut
import Derived.ShutString
import Derived.ChangeOld
import Derived.Below
import Derived.Deep.Cut
import Derived.Deep.CutRange
import Derived.Deep.CutBlock
import Derived.Deep.LoopGhost
import Derived.Deep.RegionHeld3
import Derived.BigQuiet
import Derived.Deep.QuietTactic
import Derived.StillTailTactics
import Derived.IntWalk
namespace Go.Proofs.YtkemdiefoohdjabGreat.fnRepeats
open Go.ChangeShapes Go.WideShapes Go.ChangeAt Go.RowKit
open Go.ChangeMaps (open_string shut_string)
set_option linter.unusedVariables false
set_option linter.unusedSimpArgs false

set_option maxRecDepth 100000 in
set_option maxHeartbeats 8000000 in
theorem walk (a0 : Option Addr) (len0 cap0 : Nat) (z0 : List Int) (w : World) (w0 : IsRow .u8 w a0 len0 cap0 z0) :
    Calls Tryz.prog 3 #[.slice a0 len0 cap0] w fun e w' => e = .returned (.bool true) ∧ Below w.heap.size w w' := by
  by_cases hbig : 4096 < len0
  · have C0 := Lib.hid (big_yes a0 len0 cap0 w hbig)
    clear w0
    go_enter Tryz.func3, Tryz.ntmps3
    go_wp2_with fail
    refine C0.out.mono ?_
    rintro e w1 ⟨rfl, b1⟩
    go_wp2_with fail
    go_ret
    exact ⟨rfl, b1⟩
  have C0 := Lib.hid (big_no a0 len0 cap0 w (by omega))
  have D1 := Lib.hid (fun (w' : World) (b : Below w.heap.size w w') => DrawRunsOf_any a0 len0 cap0 z0 w' (w0.below b) (by omega))
  have D2 := Lib.hid (fun (w' : World) (b : Below w.heap.size w w') => DrawCountPowers_any a0 len0 cap0 z0 w' (w0.below b) (by omega))
  have D3 := Lib.hid (fun (w' : World) (b : Below w.heap.size w w') => DrawPowersIn_any a0 len0 cap0 z0 w' (w0.below b) (by omega))
  have hmo : Tryz.prog.follows .mixedOrders = true := by kernel_rfl
  clear w0 hbig
  go_enter Tryz.func3, Tryz.ntmps3
  go_wp2_with fail
  refine C0.out.mono ?_
  rintro e w1 ⟨rfl, b1⟩
  go_wp2_with fail
  refine (D1.out _ b1).mono ?_
  rintro e w2 ⟨x, rfl, hx, b2⟩
  have B := b1.then b2
  clear C0 D1 b1 b2
  have sx : x.size ≤ maxLen := by unfold maxLen; omega
  have g1 := rep_cases x
  have i1 := fun w => impl_RunsOf x w sx
  have s1 := fun w => spec_RunsOf x w sx
  have i2 := fun w => impl_PowersIn x 2 w sx (by decide)
  have s2 := fun w => spec_PowersIn x 2 w sx (by decide)
  have i3 := fun w => impl_OverlapsIn x w sx
  have s3 := fun w => spec_OverlapsIn x w sx
  have i4 := fun w => impl_SquaresOf x w sx
  have s4 := fun w => spec_SquaresOf x w sx
  generalize (runsR x).1 = R at g1 i1 s1
  generalize (runsR x).2 = c1 at g1 i1 s1
  generalize (powersR x 2).1 = P at g1 i2 s2
  generalize (powersR x 2).2 = c2 at g1 i2 s2
  generalize (overlapsR x).1 = Q at g1 i3 s3
  generalize (overlapsR x).2 = c3 at g1 i3 s3
  generalize (squaresR x).1 = D at g1 i4 s4
  generalize (squaresR x).2 = c4 at g1 i4 s4
  have I1 := Lib.hid i1
  have S1 := Lib.hid s1
  have I2 := Lib.hid i2
  have S2 := Lib.hid s2
  have I3 := Lib.hid i3
  have S3 := Lib.hid s3
  have I4 := Lib.hid i4
  have S4 := Lib.hid s4
  have G := Lib.hid g1
  clear i1 s1 i2 s2 i3 s3 i4 s4 g1
  go_wp2_with fail
  refine (I1.out _).mono ?_
  rintro e w3 ⟨v1, rfl, o1, b3⟩
  have o1 := o1.base B.size
  have B := B.then b3
  clear b3
  go_wp2_with fail
  refine (S1.out _).mono ?_
  rintro e w4 ⟨u1, rfl, p1, b4⟩
  have o1 := o1.below b4
  have p1 := p1.base B.size
  have B := B.then b4
  clear b4
  go_wp2_with fail
  refine (I2.out _).mono ?_
  rintro e w5 ⟨v2, rfl, o2, b5⟩
  have o1 := o1.below b5
  have p1 := p1.below b5
  have o2 := o2.base B.size
  have B := B.then b5
  clear b5
  go_wp2_with fail
  refine (S2.out _).mono ?_
  rintro e w6 ⟨u2, rfl, p2, b6⟩
  have o1 := o1.below b6
  have p1 := p1.below b6
  have o2 := o2.below b6
  have p2 := p2.base B.size
  have B := B.then b6
  clear b6
  go_wp2_with fail
  refine (I3.out _).mono ?_
  rintro e w7 ⟨v3, rfl, o3, b7⟩
  have o1 := o1.below b7
  have p1 := p1.below b7
  have o2 := o2.below b7
  have p2 := p2.below b7
  have o3 := o3.base B.size
  have B := B.then b7
  clear b7
  go_wp2_with fail
  refine (S3.out _).mono ?_
  rintro e w8 ⟨u3, rfl, p3, b8⟩
  have o1 := o1.below b8
  have p1 := p1.below b8
  have o2 := o2.below b8
  have p2 := p2.below b8
  have o3 := o3.below b8
  have p3 := p3.base B.size
  have B := B.then b8
  clear b8
  go_wp2_with fail
  refine (I4.out _).mono ?_
  rintro e w9 ⟨v4, rfl, o4, b9⟩
  have o1 := o1.below b9
  have p1 := p1.below b9
  have o2 := o2.below b9
  have p2 := p2.below b9
  have o3 := o3.below b9
  have p3 := p3.below b9
  have o4 := o4.base B.size
  have B := B.then b9
  clear b9
  go_wp2_with fail
  refine (S4.out _).mono ?_
  rintro e w10 ⟨u4, rfl, p4, b10⟩
  have o1 := o1.below b10
  have p1 := p1.below b10
  have o2 := o2.below b10
  have p2 := p2.below b10
  have o3 := o3.below b10
  have p3 := p3.below b10
  have o4 := o4.below b10
  have p4 := p4.base B.size
  have B := B.then b10
  clear b10
  clear I1 S1 I2 S2 I3 S3 I4 S4
  go_wp2_with fail
  refine (runs5_yes _ _ v1 u1 R _ o1 p1).mono ?_
  rintro e w11 ⟨rfl, b11⟩
  have o1 := o1.below b11
  have p1 := p1.below b11
  have o2 := o2.below b11
  have p2 := p2.below b11
  have o3 := o3.below b11
  have p3 := p3.below b11
  have o4 := o4.below b11
  have p4 := p4.below b11
  have B := B.then b11
  clear b11 p1
  go_wp2_with fail
  refine (rows5_yes _ _ v2 u2 P _ o2 p2).mono ?_
  rintro e w12 ⟨rfl, b12⟩
  have o1 := o1.below b12
  have o2 := o2.below b12
  have p2 := p2.below b12
  have o3 := o3.below b12
  have p3 := p3.below b12
  have o4 := o4.below b12
  have p4 := p4.below b12
  have B := B.then b12
  clear b12 p2
  go_wp2_with fail
  refine (rows5_yes _ _ v3 u3 Q _ o3 p3).mono ?_
  rintro e w13 ⟨rfl, b13⟩
  have o1 := o1.below b13
  have o2 := o2.below b13
  have o3 := o3.below b13
  have p3 := p3.below b13
  have o4 := o4.below b13
  have p4 := p4.below b13
  have B := B.then b13
  clear b13 p3
  go_wp2_with fail
  refine (words5_yes _ _ v4 u4 D _ o4 p4).mono ?_
  rintro e w14 ⟨rfl, b14⟩
  have o1 := o1.below b14
  have o2 := o2.below b14
  have o3 := o3.below b14
  have o4 := o4.below b14
  have p4 := p4.below b14
  have B := B.then b14
  clear b14 p4
  go_upto_if 138 with fail
  go_cut [20, 21, 22, 23, 24, 25, 26, 27, 28, 29, 30, 31, 32, 33, 34, 35, 36, 37, 38] from 139 to 342 (fun s20 s21 s22 s23 s24 s25 s26 s27 s28 s29 s30 s31 s32 s33 s34 s35 s36 s37 s38 wd => Below w.heap.size w wd)
  case first => as_aux_lemma =>
    rcases G.out with h | ⟨h, S, O, hS, hO, g⟩
    · subst h
      go_wp2_with fail
      go_meet
      case rel => exact B
    · subst h hS hO
      clear G
      have x60 := g.size
      have isf := fun w => impl_IsSquareFree x w sx
      have iof := fun w => impl_IsOverlapFree x w sx
      have fsq := fun w => impl_FirstSquare x w sx
      have hno := g.none
      have hso := g.some
      rw [g.isf] at isf
      rw [g.iof] at iof
      obtain ⟨fa, fb, fc, hf⟩ : ∃ fa fb fc : Int, fsqR x = (fa, fb, fc) := ⟨_, _, _, rfl⟩
      rw [hf] at fsq hno hso
      have ISF : Hid (∀ w, Calls Tryz.prog 17 #[.string x] w fun e w' => e = .returned (.tuple #[.bool (decide (S = [])), .int .i64 0]) ∧ Below w.heap.size w w') := Lib.hid isf
      have IOF : Hid (∀ w, Calls Tryz.prog 18 #[.string x] w fun e w' => e = .returned (.tuple #[.bool (decide (O = [])), .int .i64 0]) ∧ Below w.heap.size w w') := Lib.hid iof
      have FSQ : Hid (∀ w, Calls Tryz.prog 19 #[.string x] w fun e w' => e = .returned (.tuple #[.int .i64 fa, .int .i64 fb, .int .i64 fc]) ∧ Below w.heap.size w w') := Lib.hid fsq
      have HNO := Lib.hid hno
      have HSO := Lib.hid hso
      have GG := Lib.hid g
      clear isf iof fsq hno hso hf
      have hless := g.less
      obtain ⟨av, cv, e1⟩ : ∃ a c, v1 = .slice a R.length c := by
        rcases o1.2 with ⟨e, e0⟩ | ⟨g, cap, cur, e, _⟩
        · have h0 : R.length = 0 := by simpa using e0
          exact ⟨none, 0, by rw [e, h0]⟩
        · exact ⟨_, _, e⟩
      obtain ⟨a2, c2', e2, look2'⟩ := look2 o2
      obtain ⟨a3, c3', e3⟩ := o3.value
      rw [rowsN_len] at e3
      obtain ⟨a4, c4', e4⟩ : ∃ a c, v4 = .slice a D.length c := by
        rcases o4.2 with ⟨e, e0⟩ | ⟨g, cap, cur, e, _⟩
        · have h0 : D.length = 0 := by simpa using e0
          exact ⟨none, 0, by rw [e, h0]⟩
        · exact ⟨_, _, e⟩
      subst e1 e2 e3 e4
      clear look2' g
      go_wp2_with fail
      refine (ISF.out _).mono ?_
      rintro e x1 ⟨rfl, b⟩
      have o1 := o1.below b
      have o2 := o2.below b
      have B := B.then b
      clear b
      go_wp2_with fail
      refine (IOF.out _).mono ?_
      rintro e x2 ⟨rfl, b⟩
      have o1 := o1.below b
      have o2 := o2.below b
      have B := B.then b
      clear b
      go_wp2_with fail
      refine (FSQ.out _).mono ?_
      rintro e x3 ⟨rfl, b⟩
      have o1 := o1.below b
      have o2 := o2.below b
      have B := B.then b
      clear b o3 o4
      go_upto_region 18 with fail
      go_cut [194] from 155 to 194 (fun s194 wc => s194 = .bool false ∧ x3 = wc)
      case first => as_aux_lemma =>
        have F1 : (decide (S = []) = true ∧ S.length = 0 ∧ R.length = 0 ∧ fc = 4) ∨ (decide (S = []) = false ∧ 0 < S.length ∧ 0 < R.length ∧ fc = 0) := by
          by_cases hS : S = []
          · obtain ⟨hf, hR⟩ := HNO.out hS
            injection hf with f1 f2
            injection f2 with f2 f3
            exact .inl ⟨decide_eq_true hS, by rw [hS]; rfl, by rw [hR]; rfl, f3⟩
          · obtain ⟨hR, i, q, hf, _⟩ := HSO.out hS
            injection hf with f1 f2
            injection f2 with f2 f3
            exact .inr ⟨decide_eq_false hS, List.length_pos_iff.2 hS, List.length_pos_iff.2 hR, f3⟩
        have F2 : (decide (O = []) = true ∧ O.length = 0) ∨ (decide (O = []) = false ∧ 0 < O.length) := by
          by_cases hO : O = []
          · exact .inl ⟨decide_eq_true hO, by rw [hO]; rfl⟩
          · exact .inr ⟨decide_eq_false hO, List.length_pos_iff.2 hO⟩
        clear HNO HSO GG ISF IOF FSQ o1 o2
        generalize decide (S = []) = bS at *
        generalize decide (O = []) = bO at *
        generalize S.length = n at *
        generalize O.length = no at *
        generalize R.length = m at *
        generalize D.length = dl at *
        rcases F1 with ⟨rfl, rfl, rfl, rfl⟩ | ⟨rfl, n0, m0, rfl⟩ <;> rcases F2 with ⟨rfl, rfl⟩ | ⟨rfl, no0⟩
        · have k1 : decide (0 < dl) = false := decide_eq_false (by omega)
          have k1i : ¬ (0 : Int) < (dl : Int) := by omega
          go_wp2_with fail
          go_meet
          case rel => exact ⟨rfl, rfl⟩
        · have k1 : decide (0 < dl) = false := decide_eq_false (by omega)
          have k1i : ¬ (0 : Int) < (dl : Int) := by omega
          have k2 : ¬ (no : Int) = 0 := by omega
          have k2b : ((no : Int) == 0) = false := beq_eq_false_iff_ne.2 k2
          have k2n : ¬ no = 0 := by omega
          go_wp2_with fail
          go_meet
          case rel => exact ⟨rfl, rfl⟩
        · have k1 : decide (n < dl) = false := decide_eq_false (by omega)
          have k1i : ¬ (n : Int) < (dl : Int) := by omega
          have k3 : ¬ (n : Int) = 0 := by omega
          have k3b : ((n : Int) == 0) = false := beq_eq_false_iff_ne.2 k3
          have k3n : ¬ n = 0 := by omega
          have k4 : ¬ (m : Int) = 0 := by omega
          have k4b : ((m : Int) == 0) = false := beq_eq_false_iff_ne.2 k4
          have k4n : ¬ m = 0 := by omega
          go_wp2_with fail
          go_meet
          case rel => exact ⟨rfl, rfl⟩
        · have k1 : decide (n < dl) = false := decide_eq_false (by omega)
          have k1i : ¬ (n : Int) < (dl : Int) := by omega
          have k2 : ¬ (no : Int) = 0 := by omega
          have k2b : ((no : Int) == 0) = false := beq_eq_false_iff_ne.2 k2
          have k2n : ¬ no = 0 := by omega
          have k3 : ¬ (n : Int) = 0 := by omega
          have k3b : ((n : Int) == 0) = false := beq_eq_false_iff_ne.2 k3
          have k3n : ¬ n = 0 := by omega
          have k4 : ¬ (m : Int) = 0 := by omega
          have k4b : ((m : Int) == 0) = false := beq_eq_false_iff_ne.2 k4
          have k4n : ¬ m = 0 := by omega
          go_wp2_with fail
          go_meet
          case rel => exact ⟨rfl, rfl⟩
      case rest => as_aux_lemma =>
        obtain ⟨rfl, rfl⟩ := hcut
        clear ISF IOF FSQ HNO
        have HQ : Hid (∀ p ∈ S, fc = 0 ∧ ∃ i q : Nat, fa = i ∧ fb = q ∧ q ≤ 60 ∧ i ≤ 60 ∧ i + 2 * q ≤ p.1 + 2 * p.2) := Lib.hid fun p hp => by
          obtain ⟨_, i, q, hf, h1, h2, h3⟩ := HSO.out (fun e => by rw [e] at hp; cases hp)
          injection hf with f1 f2
          injection f2 with f2 f3
          exact ⟨f3, i, q, f1, f2, h1, h2, h3 p hp⟩
        clear HSO
        go_upto_block 0 with fail
        go_cut [27, 28, 29, 30, 31, 32, 33] from 195 to 264 (fun s27 s28 s29 s30 s31 s32 s33 wd => OwnT wd w.heap.size (.slice av R.length cv) R ∧ Below w.heap.size w wd)
        case first => as_aux_lemma =>
          go_wp2_with fail
          go_loopw [27] (fun s wr => ∃ k : Nat, k ≤ S.length ∧ s = .int .i64 k ∧ OwnT wr w.heap.size (.slice av R.length cv) R ∧ OwnR wr w.heap.size (.slice a2 S.length c2') (rowsN S) ∧ Below w.heap.size w wr) (fun s _ => S.length - (intOf s).toNat)
          case atStart => exact ⟨0, Nat.zero_le _, rfl, o1, o2, B⟩
          case round =>
            clear o1 o2 B
            obtain ⟨k, hk, rfl, o1, o2, B⟩ := hrel
            by_cases hp : k < S.length
            · by_cases hp2 : k < 20
              · have hpi : (k : Int) < (S.length : Int) := by omega
                have hp2i : (k : Int) < 20 := by omega
                obtain ⟨ad, cap, e, look⟩ := look2 o2
                injection e with e1 e2 e3
                subst e1 e3
                obtain ⟨g, gr, cr, rfl, hkc, hcr, k0, k1, k2⟩ := look k hp
                obtain ⟨q0, ql, f1, f2⟩ := GG.out.sq _ (List.getElem_mem hp)
                obtain ⟨rfl, fi, fq, rfl, rfl, h1, h2, h3⟩ := HQ.out _ (List.getElem_mem hp)
                have x60 := GG.out.size
                generalize (S[k]'hp).1 = pi at *
                generalize (S[k]'hp).2 = pq at *
                have ct := fun w => impl_FactorAt x (pi : Int) (pq : Int) w sx (wf_near (by omega) (by omega)) (wf_near (by omega) (by omega))
                have cu := fun w => impl_FactorAt x ((pi : Int) + (pq : Int)) (pq : Int) w sx (wf_near (by omega) (by omega)) (wf_near (by omega) (by omega))
                rw [f1] at ct
                rw [f2] at cu
                generalize x.extract pi (pi + pq) = z at *
                have CT : Hid (∀ w, Calls Tryz.prog 20 #[.string x, .int .i64 (pi : Int), .int .i64 (pq : Int)] w fun e w' => e = .returned (.tuple #[.string z, .int .i64 0]) ∧ Below w.heap.size w w') := Lib.hid ct
                have CU : Hid (∀ w, Calls Tryz.prog 20 #[.string x, .int .i64 ((pi : Int) + (pq : Int)), .int .i64 (pq : Int)] w fun e w' => e = .returned (.tuple #[.string z, .int .i64 0]) ∧ Below w.heap.size w w') := Lib.hid cu
                have hz := teq_yes (rfl : z = z)
                have n1 : IntKind.i64.wrap ((pi : Int) + (pq : Int)) = (pi : Int) + (pq : Int) := IntWalk.i64_in _ (by omega)
                have n2 : IntKind.i64.wrap (2 * (fq : Int)) = 2 * (fq : Int) := IntWalk.i64_in _ (by omega)
                have n3 : IntKind.i64.wrap ((fi : Int) + 2 * (fq : Int)) = (fi : Int) + 2 * (fq : Int) := IntWalk.i64_in _ (by omega)
                have n4 : IntKind.i64.wrap (2 * (pq : Int)) = 2 * (pq : Int) := IntWalk.i64_in _ (by omega)
                have n5 : IntKind.i64.wrap ((pi : Int) + 2 * (pq : Int)) = (pi : Int) + 2 * (pq : Int) := IntWalk.i64_in _ (by omega)
                have n6 : ¬ (pi : Int) + 2 * (pq : Int) < (fi : Int) + 2 * (fq : Int) := by omega
                have n6d : decide ((pi : Int) + 2 * (pq : Int) < (fi : Int) + 2 * (fq : Int)) = false := decide_eq_false n6
                have hcr0 : 0 < cr := by omega
                have hcr1 : 1 < cr := by omega
                have O1 := Lib.hid o1
                have O2 := Lib.hid o2
                clear ct cu f1 f2 look e2 o1 o2
                go_wp2_with fail
                go_quiet (fail)
                go_wp2_with fail
                refine (CT.out _).mono ?_
                rintro e y1 ⟨rfl, b1⟩
                go_wp2_with fail
                refine (CU.out _).mono ?_
                rintro e y2 ⟨rfl, b2⟩
                have b := ((Below.refl _ wr).drewN nq).then (b1.then b2)
                have B2 := Lib.hid (B.then b)
                have O3 := Lib.hid (O1.out.below b)
                have O4 := Lib.hid (O2.out.below b)
                clear b b1 b2 B
                go_wp2_with fail
                go_roundw
                case rel => exact ⟨k + 1, by omega, by go_num, O3.out, O4.out, B2.out⟩
                case measure => simp [intOf]; omega
              · have hpi : (k : Int) < (S.length : Int) := by omega
                have hp2i : ¬ (k : Int) < 20 := by omega
                clear o2 HQ
                go_wp2_with fail
                go_meet
                case rel => exact ⟨o1, B⟩
            · have hpi : ¬ (k : Int) < (S.length : Int) := by omega
              clear o2 HQ
              go_wp2_with fail
              go_meet
              case rel => exact ⟨o1, B⟩
        case rest => as_aux_lemma =>
          obtain ⟨o1, B⟩ := hcut
          clear o2 HQ
          go_wp2_with fail
          go_loopw [34] (fun s wr => ∃ k : Nat, k ≤ R.length ∧ s = .int .i64 k ∧ OwnT wr w.heap.size (.slice av R.length cv) R ∧ Below w.heap.size w wr) (fun s _ => R.length - (intOf s).toNat)
          case atStart => exact ⟨0, Nat.zero_le _, rfl, o1, B⟩
          case round =>
            clear o1 B
            obtain ⟨k, hk, rfl, o1, B⟩ := hrel
            by_cases hp : k < R.length
            · by_cases hp2 : k < 12
              · have hpi : (k : Int) < (R.length : Int) := by omega
                have hp2i : (k : Int) < 12 := by omega
                obtain ⟨g, cap, e, _, hg, hc, hm, cell⟩ := o1.row (by omega)
                injection e with e1 e2 e3
                subst e1 e3
                obtain ⟨c0, c1, c2⟩ := cell k hp
                have hr := GG.out.rn _ (List.getElem_mem hp)
                obtain ⟨r1, r2, r3, r4, tl, r5⟩ := hr
                have ct := fun w => impl_FactorAt x ((R[k]'hp).1 : Int) (((R[k]'hp).2.1 : Int) - ((R[k]'hp).1 : Int)) w sx (wf_near (by omega) (by omega)) (wf_near (by omega) (by omega))
                rw [r4] at ct
                have hzs : (x.extract (R[k]'hp).1 (R[k]'hp).2.1).size ≤ maxLen := by unfold maxLen; simp; omega
                have cp := fun w => impl_PeriodsOf (x.extract (R[k]'hp).1 (R[k]'hp).2.1) w hzs
                rw [r5] at cp
                have CP : Hid (∀ w, Calls Tryz.prog 21 #[.string (x.extract (R[k]'hp).1 (R[k]'hp).2.1)] w (RetI (((R[k]'hp).2.2 : Int) :: tl) 0 w)) := Lib.hid cp
                have CT : Hid (∀ w, Calls Tryz.prog 20 #[.string x, .int .i64 ((R[k]'hp).1 : Int), .int .i64 (((R[k]'hp).2.1 : Int) - ((R[k]'hp).1 : Int))] w fun e w' => e = .returned (.tuple #[.string (x.extract (R[k]'hp).1 (R[k]'hp).2.1), .int .i64 0]) ∧ Below w.heap.size w w') := Lib.hid ct
                clear ct cp r4 r5 cell e2
                have x60 := GG.out.size
                generalize x.extract (R[k]'hp).1 (R[k]'hp).2.1 = z at *
                generalize (R[k]'hp).1 = f at *
                generalize (R[k]'hp).2.1 = t at *
                generalize (R[k]'hp).2.2 = p at *
                have hcap : k < cv := by omega
                have q1 : IntKind.i64.wrap ((t : Int) - (f : Int)) = (t : Int) - (f : Int) := IntWalk.i64_in _ (by omega)
                have q2 : IntKind.i64.wrap (2 * (p : Int)) = 2 * (p : Int) := IntWalk.i64_in _ (by omega)
                have q3 : ¬ (t : Int) - (f : Int) < 2 * (p : Int) := by omega
                have q3d : decide ((t : Int) - (f : Int) < 2 * (p : Int)) = false := decide_eq_false q3
                have O1 := Lib.hid o1
                clear o1
                go_wp2_with fail
                go_region_held3 (fun w' => w'.cell? ⟨g, k * 3, none⟩ = some (.int .i64 (f : Int)) ∧ w'.cell? ⟨g, k * 3 + 1, none⟩ = some (.int .i64 (t : Int)))
                  (first | go_keep | (go_split_ands; refine ⟨?_, ?_⟩ <;> (rw [(bcell b).1 g _ (by simp; omega)]; assumption)))
                  (first | (go_at_call 20; refine (CT.out _).mono ?_; rintro e y1 ⟨rfl, b⟩))
                have o1 := (O1.out.below (Below.refl _ _).drew).below b
                have d0 : y1.cell? ⟨g, k * 3, none⟩ = some (.int .i64 (f : Int)) := by rw [(bcell b).1 g _ hg]; exact c0
                have d1 : y1.cell? ⟨g, k * 3 + 1, none⟩ = some (.int .i64 (t : Int)) := by rw [(bcell b).1 g _ hg]; exact c1
                have d2 : y1.cell? ⟨g, k * 3 + 2, none⟩ = some (.int .i64 (p : Int)) := by rw [(bcell b).1 g _ hg]; exact c2
                have hg1 : g < y1.heap.size := Nat.lt_of_lt_of_le hg b.size
                have B := (B.drew).then b
                clear b c0 c1 c2
                have O2 := Lib.hid o1
                clear o1
                go_wp2_with fail
                refine (CP.out _).mono ?_
                rintro e y2 ⟨v5, rfl, o5, b⟩
                have o1 := O2.out.below b
                have c0 : y2.cell? ⟨g, k * 3, none⟩ = some (.int .i64 (f : Int)) := by rw [(bcell b).1 g _ hg1]; exact d0
                have c1 : y2.cell? ⟨g, k * 3 + 1, none⟩ = some (.int .i64 (t : Int)) := by rw [(bcell b).1 g _ hg1]; exact d1
                have c2 : y2.cell? ⟨g, k * 3 + 2, none⟩ = some (.int .i64 (p : Int)) := by rw [(bcell b).1 g _ hg1]; exact d2
                obtain ⟨g5, cap5, rfl, _, hg5, hc5, _, cell5, _⟩ := o5.row (by simp)
                have k0 := cell5 0 (by simp)
                have k0' : y2.cell? ⟨g5, 0, none⟩ = some (.int .i64 (p : Int)) := by simpa using k0
                obtain ⟨n5, hn5⟩ : ∃ n5, (((p : Int)) :: tl).length = n5 := ⟨_, rfl⟩
                have hn5a : 0 < n5 := by rw [← hn5]; simp
                rw [hn5] at hc5 ⊢
                have hn5i : ¬ (n5 : Int) < 1 := by omega
                have hn5d : decide ((n5 : Int) < 1) = false := decide_eq_false hn5i
                have hn5n : decide (n5 < 1) = false := decide_eq_false (by omega)
                have hn5c : 0 < cap5 := by omega
                have hpp : ((p : Int) != (p : Int)) = false := by simp
                have B := B.then b
                have O1 := Lib.hid o1
                clear b d0 d1 d2 o1 o5 k0 cell5 hn5
                go_wp2_with fail
                go_quiet (fail)
                go_wp2_with fail
                go_roundw
                case rel => exact ⟨k + 1, by omega, by go_num, O1.out.below ((Below.refl _ _).drewN nq), B.drewN nq⟩
                case measure => simp [intOf]; omega
              · have hpi : (k : Int) < (R.length : Int) := by omega
                have hp2i : ¬ (k : Int) < 12 := by omega
                clear o1
                go_wp2_with fail
                go_meet
                case rel => exact B
            · have hpi : ¬ (k : Int) < (R.length : Int) := by omega
              clear o1
              go_wp2_with fail
              go_meet
              case rel => exact B
  case rest => as_aux_lemma =>
    have B := hcut
    clear hcut G
    go_wp2_with fail
    refine (D2.out _ B).mono ?_
    rintro e x1 ⟨y, kk, rfl, hy, wk, b⟩
    have B := B.then b
    clear b D2
    have sy : y.size ≤ maxLen := by unfold maxLen; omega
    have i5 := fun w => impl_CountPowers y kk w sy wk
    have s5 := fun w => spec_CountPowers y kk w sy wk
    generalize (countPR y kk).1 = m5 at i5 s5
    generalize (countPR y kk).2 = c5 at i5 s5
    have I5 := Lib.hid i5
    have S5 := Lib.hid s5
    clear i5 s5
    go_wp2_with fail
    refine (I5.out _).mono ?_
    rintro e x2 ⟨rfl, b⟩
    have B := B.then b
    clear b
    go_wp2_with fail
    refine (S5.out _).mono ?_
    rintro e x3 ⟨rfl, b⟩
    have B := B.then b
    clear b I5 S5
    go_wp2_with fail
    refine (D3.out _ B).mono ?_
    rintro e x4 ⟨t, n, rfl, ht, wn, b⟩
    have B := B.then b
    clear b D3
    have st : t.size ≤ maxLen := by unfold maxLen; omega
    have i6 := fun w => impl_PowersIn t n w st wn
    have s6 := fun w => spec_PowersIn t n w st wn
    generalize (powersR t n).1 = L6 at i6 s6
    generalize (powersR t n).2 = c6 at i6 s6
    have I6 := Lib.hid i6
    have S6 := Lib.hid s6
    clear i6 s6
    go_wp2_with fail
    refine (I6.out _).mono ?_
    rintro e x5 ⟨v6, rfl, o6, b⟩
    have B := B.then b
    clear b
    go_wp2_with fail
    refine (S6.out _).mono ?_
    rintro e x6 ⟨v7, rfl, o7, b⟩
    have o6 := o6.below b
    have B := B.then b
    clear b I6 S6
    go_wp2_with fail
    refine (rows5_yes _ _ v6 v7 L6 _ o6 o7).mono ?_
    rintro e x7 ⟨rfl, b⟩
    have B := B.then b
    clear b o6 o7
    go_wp2_with fail
    go_ret
    exact ⟨rfl, B⟩

theorem own : ownKnob Tryz.prog.godebug = none := by kernel_rfl
theorem laidOut : laidOutB Tryz.prog = true := by kernel_rfl

set_option maxRecDepth 100000 in
theorem lifted (os : Os) (started : os.Started) (H : Type) (enc : TypeId × Value → H) :
    ReturnsInHanded {} Tryz.checked os 3 .any (Rows.fnRepeatsSpec.pre6 enc Tryz.prog Tryz.f3 Rows.fnRepeatsRow.domain false) (Rows.fnRepeatsSpec.post enc Tryz.prog Tryz.f3 false true false false) := by
  refine returnsInHanded_of_change (C := Tryz.checked) own started (by kernel_rfl) Tryz.func3
    (ChangeSpec.witness6 (enc := enc) (C := Tryz.checked) false ⟨#[], #[.slice none 0 0], []⟩ 8 (by kernel_rfl) (by kernel_rfl) (by kernel_rfl) (by kernel_rfl)) ?_
  intro W base args ds gs before hval0 hW hcnd _
  have hval : ∀ (j : Nat) t v, Tryz.f3.params[j]? = some t → args[j]? = some v → Value.okWide Tryz.prog W .any base t v := hval0
  have hW' := hW
  obtain ⟨p, q, hA0, hV, rfl, hfz, hnd⟩ := hW
  have hA : DataW.TrodAll enc Tryz.prog W 0 (fun _ => true) true Tryz.f3.params.toList args.toList ds p := hA0
  rw [Tryz.params3] at hA hval
  obtain ⟨v0, vs0, d0, ds0, p0, q0, hargs, rfl, rfl, h0, r0⟩ := trodAll_cons hA
  obtain ⟨rfl, rfl, rfl⟩ := trodAll_nil r0
  obtain rfl : args = #[v0] := by cases args; simp_all
  obtain ⟨rfl, rfl⟩ := trodVars_none hV
  obtain ⟨a0, len0, cap0, rfl⟩ := okWide_slice Tryz.underlying22 (hval 0 22 v0 rfl rfl)
  have k0 := h0
  have lt0 : ∀ x ∈ p0, x.block < W.heap.size := by obtain ⟨m, hm⟩ := k0; exact DataW.trod_lt m _ _ _ hm
  obtain ⟨z0, w0⟩ : ∃ zs, IsRow .u8 W a0 len0 cap0 zs := by
    obtain ⟨fuel, hf⟩ := h0
    rcases open_ints Tryz.underlying22 Tryz.underlying5 (by kernel_rfl) hf with ⟨hcs, _⟩ | ⟨x, l, c, zs, hcs, _, hl, hm, hz, _, hcell, hwz⟩
    · simp [Value.cells] at hcs
      obtain ⟨rfl, rfl, rfl⟩ := hcs
      exact ⟨[], .inl ⟨rfl, rfl, rfl, rfl⟩⟩
    · simp [Value.cells] at hcs
      obtain ⟨rfl, rfl, rfl⟩ := hcs
      exact ⟨zs, .inr ⟨_, rfl, hl, hm, by simpa using hz, hcell, hwz⟩⟩
  clear hA0 hval0
  refine (walk a0 len0 cap0 z0 W w0).mono fun e W' ⟨he, bel⟩ => ?_
  subst he
  exact ⟨_, rfl, _, _, _, [], _, [], hW', trodAll_mk1 (shut_bool Tryz.underlying4 _), (trodAll_cons_mk (Below.trod laidOut (by kernel_rfl) (of_decide_eq_true (by kernel_rfl)) k0 bel lt0) trodAll_mk0), rfl, bel.frame _, fun h => by cases h⟩

theorem over : Rows.fnRepeatsRow.holds Tryz.pinned (OpenSpec.ofChange Rows.fnRepeatsSpec) :=
  OpenClaim.holds_of_wide 3 Tryz.f3 rfl rfl rfl rfl rfl rfl rfl ⟨rfl, rfl, rfl, rfl, rfl⟩ rfl rfl rfl rfl rfl (by kernel_rfl) Tryz.func3 (by kernel_rfl)
    (of_decide_eq_true (by kernel_rfl)) (by unfold Func.isWrapper; first | (rw [if_pos (by decide +kernel)]; kernel_rfl) | (rw [if_neg (by decide +kernel)]; exact ⟨rfl, rfl⟩))
    (fun os started H enc _ => lifted os started H enc)

theorem proved : Rows.FnRepeatsSaid := over
#print axioms proved
