/- For every bytes: what the program says of critical places, local periods and factors without borders hangs together. No condition. -/
import Derived.Test.YtinanajagkilaaaW3
import Derived.Test.YtinanajagkilaaaDrawTwo
import Derived.Test.YtinanajagkilaaaLike
import Derived.Test.YtinanajagkilaaaBorders
import Derived.Test.YtinanajagkilaaaRows
import Derived.WalkKit
import Derived.ProofKit
import Derived.OpenShut
import Derived.ShutString
import Derived.ChangeOld
import Derived.Below
namespace Go.Proofs.Ytinanajagkilaaa.fnCritical
open Go.ChangeShapes Go.WideShapes Go.ChangeAt Go.RowKit
open Go.ChangeMaps (open_string shut_string)
set_option linter.unusedVariables false
set_option linter.unusedSimpArgs false

set_option maxRecDepth 100000 in
set_option maxHeartbeats 8000000 in
theorem walk (a0 : Option Addr) (len0 cap0 : Nat) (z0 : List Int) (w : World) (w0 : IsRow .u8 w a0 len0 cap0 z0) :
    Calls Try.prog 4 #[.slice a0 len0 cap0] w fun e w' => e = .returned (.bool true) ∧ Below w.heap.size w w' := by
  by_cases hbig : 4096 < len0
  · have C0 := Lib.hid (big_yes a0 len0 cap0 w hbig)
    clear w0
    go_enter Try.func4, Try.ntmps4
    go_wp2_with fail
    refine C0.out.mono ?_
    rintro e w1 ⟨rfl, b1⟩
    go_wp2_with fail
    go_ret
    exact ⟨rfl, b1⟩
  have hlen : len0 ≤ 1048576 := by omega
  have C0 := Lib.hid (big_no a0 len0 cap0 w (by omega))
  have D1 := Lib.hid (fun (w' : World) (b : Below w.heap.size w w') => DrawCriticalPlaces_any a0 len0 cap0 z0 w' (w0.below b) hlen)
  have D2 := Lib.hid (fun (w' : World) (b : Below w.heap.size w w') => DrawLocalPeriod_any a0 len0 cap0 z0 w' (w0.below b) hlen)
  have D3 := Lib.hid (fun (w' : World) (b : Below w.heap.size w w') => DrawLongestUnbordered_any a0 len0 cap0 z0 w' (w0.below b) hlen)
  clear w0 hbig hlen
  go_enter Try.func4, Try.ntmps4
  go_wp2_with fail
  refine C0.out.mono ?_
  rintro e w1 ⟨rfl, B⟩
  clear C0
  go_wp2_with fail
  refine (D1.out _ B).mono ?_
  rintro e w2 ⟨x, rfl, hx, b2⟩
  have B := B.then b2
  clear b2 D1
  have sx : x.size ≤ maxLen := by unfold Go.maxLen; omega
  have g1 := crit_none x
  have g2 := crit_places x
  have ci := fun w => impl_CriticalPlaces x w sx
  have cs := fun w => spec_CriticalPlaces x w sx
  have cp := fun w => impl_PeriodsOf x w sx
  generalize (critsR x).1 = P at g1 g2 ci cs
  generalize (critsR x).2 = c1 at g1 g2 ci cs
  generalize (periodsR x).1 = Lx at g2 cp
  generalize (periodsR x).2 = cx at g2 cp
  have G1 := Lib.hid g1
  have G2 := Lib.hid g2
  have CI := Lib.hid ci
  have CS := Lib.hid cs
  have CX := Lib.hid cp
  clear ci cs cp g1 g2
  go_wp2_with fail
  refine (CI.out _).mono ?_
  rintro e w3 ⟨v1, rfl, o1, b3⟩
  have B := B.then b3
  clear b3
  go_wp2_with fail
  refine (CS.out _).mono ?_
  rintro e w4 ⟨v2, rfl, o2, b4⟩
  have o1 := o1.below b4
  have B := B.then b4
  clear b4
  go_wp2_with fail
  refine (likeInts_yes _ _ _ _ P _ o1 o2).mono ?_
  rintro e w5 ⟨rfl, b5⟩
  have o1 := o1.below b5
  have B := B.then b5
  clear b5 o2 CI CS
  go_wp2_with fail
  refine (D2.out _ B).mono ?_
  rintro e w6 ⟨u, i, rfl, hu, wi, b6⟩
  have o1 := o1.below b6
  have B := B.then b6
  clear b6 D2
  have su : u.size ≤ maxLen := by unfold Go.maxLen; omega
  have g3 := crit_local u i
  have ci := fun w => impl_LocalPeriod u i w su wi
  have cs := fun w => spec_LocalPeriod u i w su wi
  have cp := fun w => impl_PeriodsOf u w su
  generalize (locR u i).1 = r at g3 ci cs
  generalize (locR u i).2 = c2 at g3 ci cs
  generalize (periodsR u).1 = Lu at g3 cp
  generalize (periodsR u).2 = cu at g3 cp
  have G3 := Lib.hid g3
  have CI := Lib.hid ci
  have CS := Lib.hid cs
  have CU := Lib.hid cp
  clear ci cs cp g3 wi
  go_wp2_with fail
  refine (CI.out _).mono ?_
  rintro e w7 ⟨rfl, b7⟩
  have o1 := o1.below b7
  have B := B.then b7
  clear b7
  go_wp2_with fail
  refine (CS.out _).mono ?_
  rintro e w8 ⟨rfl, b8⟩
  have o1 := o1.below b8
  have B := B.then b8
  clear b8 CI CS
  go_wp2_with fail
  refine (D3.out _ B).mono ?_
  rintro e w9 ⟨v, rfl, hv, b9⟩
  have o1 := o1.below b9
  have B := B.then b9
  clear b9 D3
  have sv : v.size ≤ maxLen := by unfold Go.maxLen; omega
  have g4 := crit_long v
  have ci := fun w => impl_LongestUnbordered v w sv
  have cs := fun w => spec_LongestUnbordered v w sv
  have cp := fun w => impl_PeriodsOf v w sv
  have cb := fun w (h : (luR v).1.size ≤ maxLen) => impl_BordersOf (luR v).1 w h
  generalize (luR v).1 = t at g4 ci cs cb
  generalize (luR v).2 = c3 at g4 ci cs
  generalize (periodsR v).1 = Lv at g4 cp
  generalize (periodsR v).2 = cv at g4 cp
  generalize (bordersR t).1 = M at g4 cb
  generalize (bordersR t).2 = cm at g4 cb
  have G4 := Lib.hid g4
  have CI := Lib.hid ci
  have CS := Lib.hid cs
  have CV := Lib.hid cp
  have CB := Lib.hid cb
  clear ci cs cp cb g4
  go_wp2_with fail
  refine (CI.out _).mono ?_
  rintro e w10 ⟨rfl, b10⟩
  have o1 := o1.below b10
  have B := B.then b10
  clear b10
  go_wp2_with fail
  refine (CS.out _).mono ?_
  rintro e w11 ⟨rfl, b11⟩
  have o1 := o1.below b11
  have B := B.then b11
  clear b11 CI CS
  by_cases h3 : c3 = 0
  · obtain ⟨k1, k2, rfl, k4, rfl, p, tl, rfl, k7, k8⟩ := G4.out h3
    subst h3
    obtain ⟨z, rfl⟩ := List.length_eq_one_iff.1 k4
    go_wp2_with fail
    refine (CB.out _ (by unfold Go.maxLen; omega)).mono ?_
    rintro e w12 ⟨vb, rfl, ob, bb⟩
    have o1 := o1.below bb
    have B := B.then bb
    obtain ⟨gb, qb, rfl, _⟩ := ob.row (by simp)
    go_wp2_with fail
    refine (CV.out _).mono ?_
    rintro e w13 ⟨vp, rfl, op, bp⟩
    have o1 := o1.below bp
    have B := B.then bp
    obtain ⟨gp, qp, rfl, _, hgp, hqp, _, cellp, _⟩ := op.row (by simp)
    have kp : w13.cell? ⟨gp, 0, none⟩ = some (.int .i64 p) := cellp 0 (by simp)
    have hlp : 0 < (p :: tl).length := by simp
    clear cellp op bp ob bb CB CV
    generalize hnp : (p :: tl).length = np at *
    have hqp0 : 0 < qp := by omega
    have hk1 : ¬ (t.size : Int) < 1 := by omega
    by_cases h2 : c2 = 0
    · obtain ⟨rfl, m1, m2, p2, tl2, rfl, m3, m4⟩ := G3.out h2
      subst h2
      go_wp2_with fail
      refine (CU.out _).mono ?_
      rintro e w14 ⟨vu, rfl, ou, bu⟩
      have o1 := o1.below bu
      have B := B.then bu
      obtain ⟨gu, qu, rfl, _, hgu, hqu, _, cellu, _⟩ := ou.row (by simp)
      have ku : w14.cell? ⟨gu, 0, none⟩ = some (.int .i64 p2) := cellu 0 (by simp)
      have hlu : 0 < (p2 :: tl2).length := by simp
      clear cellu ou bu
      generalize hnu : (p2 :: tl2).length = nu at *
      have hqu0 : 0 < qu := by omega
      by_cases hC : c1 ≠ 0 ∨ x.size < 2
      · have hP := G1.out hC
        subst hP
        obtain ⟨aa, cc, rfl⟩ := o1.empty
        clear o1 G1 G2 CX G3 G4 CU
        by_cases hc : c1 = 0
        · have hs2 : (x.size : Int) < 2 := by omega
          go_wp2_with fail
          go_ret
          exact ⟨rfl, B⟩
        · go_wp2_with fail
          go_ret
          exact ⟨rfl, B⟩
      · have hc : c1 = 0 := by omega
        have hs2 : ¬ (x.size : Int) < 2 := by omega
        obtain ⟨rfl, hx60, p3, tl3, c, s, rfl, hP, n1, n2, n3, n4⟩ := G2.out hc (by omega)
        have CL := Lib.hid fun z (hz : z ∈ P) w => (show Calls Try.prog 41 #[.string x, .int .i64 z] w fun e w' => e = .returned (.tuple #[.int .i64 p3, .int .i64 0]) ∧ Below w.heap.size w w' from by
          have h9 := n4 z hz
          have h8 := impl_LocalPeriod x z w sx (by simp [Lit.wf, IntKind.min, IntKind.max, IntKind.signed, IntKind.bits]; omega)
          rw [h9.1] at h8
          exact h8)
        clear n4 G1 G2 G3 G4 CU hC
        subst hc
        have hlP : 0 < P.length := by rw [hP]; simp
        have hP0 : P[0]'hlP = c := by simp [hP]
        clear hP
        obtain ⟨gP, qP, rfl, _, hgP, hqP, hmP, cellP, _⟩ := o1.row hlP
        unfold Go.maxLen at hmP
        go_wp2_with fail
        refine (CX.out _).mono ?_
        rintro e wx ⟨vx, rfl, ox, bx⟩
        have B := B.then bx
        obtain ⟨gx, qx, rfl, _, hgx, hqx, _, cellx, _⟩ := ox.row (by simp)
        have kx : wx.cell? ⟨gx, 0, none⟩ = some (.int .i64 p3) := cellx 0 (by simp)
        have kP : wx.cell? ⟨gP, 0, none⟩ = some (.int .i64 c) := by rw [(bcell bx).1 gP 0 hgP, cellP 0 hlP, hP0]
        have hcP := Lib.hid (fun k (hk : k < P.length) => ((bcell bx).1 gP k hgP).trans (cellP k hk))
        have hgP2 : gP < wx.heap.size := Nat.lt_of_lt_of_le hgP bx.size
        have hlx : 0 < (p3 :: tl3).length := by simp
        clear cellP cellx o1 ox CX bx hP0
        generalize hnx : (p3 :: tl3).length = nx at *
        have hqP0 : 0 < qP := by omega
        have hqx0 : 0 < qx := by omega
        have nP1 : ¬ (P.length : Int) = 0 := by omega
        have nP2 : ((P.length : Int) == 0) = false := beq_eq_false_iff_ne.2 (by omega)
        go_wp2
        go_quiet (fail)
        go_wp2
        go_loopw [27] (fun i wr => ∃ k : Nat, k ≤ P.length ∧ i = .int .i64 (k : Int) ∧ Below wx.heap.size wx wr ∧ Below w.heap.size w wr) (fun i _ => P.length - (intOf i).toNat)
        case atStart => exact ⟨0, Nat.zero_le _, rfl, (Below.refl _ _).drewN _, B.drewN _⟩
        case round =>
          obtain ⟨k, hk, rfl, hB, hBw⟩ := hrel
          by_cases hp : k < P.length
          · have k1 : wr.cell? ⟨gP, k, none⟩ = some (.int .i64 (P[k]'hp)) := by rw [(bcell hB).1 gP k hgP2]; exact hcP.out k hp
            have KZ := Lib.hid (CL.out _ (List.getElem_mem hp))
            have kx2 : wr.cell? ⟨gx, 0, none⟩ = some (.int .i64 p3) := by rw [(bcell hB).1 gx 0 hgx]; exact kx
            have hkq : k < qP := by omega
            generalize P[k]'hp = z at k1 KZ
            go_wp2_with fail
            refine (KZ.out _).mono ?_
            rintro e wq ⟨rfl, bq⟩
            have kx3 : wq.cell? ⟨gx, 0, none⟩ = some (.int .i64 p3) := by rw [(bcell (hB.then bq)).1 gx 0 hgx]; exact kx
            go_wp2
            go_roundw
            case rel => exact ⟨k + 1, by omega, by go_num, hB.then bq, hBw.then bq⟩
            case measure => simp [intOf]; omega
          · go_wp2
            go_ret
            exact ⟨rfl, hBw⟩
    · skip
      by_cases hC : c1 ≠ 0 ∨ x.size < 2
      · have hP := G1.out hC
        subst hP
        obtain ⟨aa, cc, rfl⟩ := o1.empty
        clear o1 G1 G2 CX G3 G4 CU
        by_cases hc : c1 = 0
        · have hs2 : (x.size : Int) < 2 := by omega
          go_wp2_with fail
          go_ret
          exact ⟨rfl, B⟩
        · go_wp2_with fail
          go_ret
          exact ⟨rfl, B⟩
      · have hc : c1 = 0 := by omega
        have hs2 : ¬ (x.size : Int) < 2 := by omega
        obtain ⟨rfl, hx60, p3, tl3, c, s, rfl, hP, n1, n2, n3, n4⟩ := G2.out hc (by omega)
        have CL := Lib.hid fun z (hz : z ∈ P) w => (show Calls Try.prog 41 #[.string x, .int .i64 z] w fun e w' => e = .returned (.tuple #[.int .i64 p3, .int .i64 0]) ∧ Below w.heap.size w w' from by
          have h9 := n4 z hz
          have h8 := impl_LocalPeriod x z w sx (by simp [Lit.wf, IntKind.min, IntKind.max, IntKind.signed, IntKind.bits]; omega)
          rw [h9.1] at h8
          exact h8)
        clear n4 G1 G2 G3 G4 CU hC
        subst hc
        have hlP : 0 < P.length := by rw [hP]; simp
        have hP0 : P[0]'hlP = c := by simp [hP]
        clear hP
        obtain ⟨gP, qP, rfl, _, hgP, hqP, hmP, cellP, _⟩ := o1.row hlP
        unfold Go.maxLen at hmP
        go_wp2_with fail
        refine (CX.out _).mono ?_
        rintro e wx ⟨vx, rfl, ox, bx⟩
        have B := B.then bx
        obtain ⟨gx, qx, rfl, _, hgx, hqx, _, cellx, _⟩ := ox.row (by simp)
        have kx : wx.cell? ⟨gx, 0, none⟩ = some (.int .i64 p3) := cellx 0 (by simp)
        have kP : wx.cell? ⟨gP, 0, none⟩ = some (.int .i64 c) := by rw [(bcell bx).1 gP 0 hgP, cellP 0 hlP, hP0]
        have hcP := Lib.hid (fun k (hk : k < P.length) => ((bcell bx).1 gP k hgP).trans (cellP k hk))
        have hgP2 : gP < wx.heap.size := Nat.lt_of_lt_of_le hgP bx.size
        have hlx : 0 < (p3 :: tl3).length := by simp
        clear cellP cellx o1 ox CX bx hP0
        generalize hnx : (p3 :: tl3).length = nx at *
        have hqP0 : 0 < qP := by omega
        have hqx0 : 0 < qx := by omega
        have nP1 : ¬ (P.length : Int) = 0 := by omega
        have nP2 : ((P.length : Int) == 0) = false := beq_eq_false_iff_ne.2 (by omega)
        go_wp2
        go_quiet (fail)
        go_wp2
        go_loopw [27] (fun i wr => ∃ k : Nat, k ≤ P.length ∧ i = .int .i64 (k : Int) ∧ Below wx.heap.size wx wr ∧ Below w.heap.size w wr) (fun i _ => P.length - (intOf i).toNat)
        case atStart => exact ⟨0, Nat.zero_le _, rfl, (Below.refl _ _).drewN _, B.drewN _⟩
        case round =>
          obtain ⟨k, hk, rfl, hB, hBw⟩ := hrel
          by_cases hp : k < P.length
          · have k1 : wr.cell? ⟨gP, k, none⟩ = some (.int .i64 (P[k]'hp)) := by rw [(bcell hB).1 gP k hgP2]; exact hcP.out k hp
            have KZ := Lib.hid (CL.out _ (List.getElem_mem hp))
            have kx2 : wr.cell? ⟨gx, 0, none⟩ = some (.int .i64 p3) := by rw [(bcell hB).1 gx 0 hgx]; exact kx
            have hkq : k < qP := by omega
            generalize P[k]'hp = z at k1 KZ
            go_wp2_with fail
            refine (KZ.out _).mono ?_
            rintro e wq ⟨rfl, bq⟩
            have kx3 : wq.cell? ⟨gx, 0, none⟩ = some (.int .i64 p3) := by rw [(bcell (hB.then bq)).1 gx 0 hgx]; exact kx
            go_wp2
            go_roundw
            case rel => exact ⟨k + 1, by omega, by go_num, hB.then bq, hBw.then bq⟩
            case measure => simp [intOf]; omega
          · go_wp2
            go_ret
            exact ⟨rfl, hBw⟩
  · skip
    by_cases h2 : c2 = 0
    · obtain ⟨rfl, m1, m2, p2, tl2, rfl, m3, m4⟩ := G3.out h2
      subst h2
      go_wp2_with fail
      refine (CU.out _).mono ?_
      rintro e w14 ⟨vu, rfl, ou, bu⟩
      have o1 := o1.below bu
      have B := B.then bu
      obtain ⟨gu, qu, rfl, _, hgu, hqu, _, cellu, _⟩ := ou.row (by simp)
      have ku : w14.cell? ⟨gu, 0, none⟩ = some (.int .i64 p2) := cellu 0 (by simp)
      have hlu : 0 < (p2 :: tl2).length := by simp
      clear cellu ou bu
      generalize hnu : (p2 :: tl2).length = nu at *
      have hqu0 : 0 < qu := by omega
      by_cases hC : c1 ≠ 0 ∨ x.size < 2
      · have hP := G1.out hC
        subst hP
        obtain ⟨aa, cc, rfl⟩ := o1.empty
        clear o1 G1 G2 CX G3 G4 CU
        by_cases hc : c1 = 0
        · have hs2 : (x.size : Int) < 2 := by omega
          go_wp2_with fail
          go_ret
          exact ⟨rfl, B⟩
        · go_wp2_with fail
          go_ret
          exact ⟨rfl, B⟩
      · have hc : c1 = 0 := by omega
        have hs2 : ¬ (x.size : Int) < 2 := by omega
        obtain ⟨rfl, hx60, p3, tl3, c, s, rfl, hP, n1, n2, n3, n4⟩ := G2.out hc (by omega)
        have CL := Lib.hid fun z (hz : z ∈ P) w => (show Calls Try.prog 41 #[.string x, .int .i64 z] w fun e w' => e = .returned (.tuple #[.int .i64 p3, .int .i64 0]) ∧ Below w.heap.size w w' from by
          have h9 := n4 z hz
          have h8 := impl_LocalPeriod x z w sx (by simp [Lit.wf, IntKind.min, IntKind.max, IntKind.signed, IntKind.bits]; omega)
          rw [h9.1] at h8
          exact h8)
        clear n4 G1 G2 G3 G4 CU hC
        subst hc
        have hlP : 0 < P.length := by rw [hP]; simp
        have hP0 : P[0]'hlP = c := by simp [hP]
        clear hP
        obtain ⟨gP, qP, rfl, _, hgP, hqP, hmP, cellP, _⟩ := o1.row hlP
        unfold Go.maxLen at hmP
        go_wp2_with fail
        refine (CX.out _).mono ?_
        rintro e wx ⟨vx, rfl, ox, bx⟩
        have B := B.then bx
        obtain ⟨gx, qx, rfl, _, hgx, hqx, _, cellx, _⟩ := ox.row (by simp)
        have kx : wx.cell? ⟨gx, 0, none⟩ = some (.int .i64 p3) := cellx 0 (by simp)
        have kP : wx.cell? ⟨gP, 0, none⟩ = some (.int .i64 c) := by rw [(bcell bx).1 gP 0 hgP, cellP 0 hlP, hP0]
        have hcP := Lib.hid (fun k (hk : k < P.length) => ((bcell bx).1 gP k hgP).trans (cellP k hk))
        have hgP2 : gP < wx.heap.size := Nat.lt_of_lt_of_le hgP bx.size
        have hlx : 0 < (p3 :: tl3).length := by simp
        clear cellP cellx o1 ox CX bx hP0
        generalize hnx : (p3 :: tl3).length = nx at *
        have hqP0 : 0 < qP := by omega
        have hqx0 : 0 < qx := by omega
        have nP1 : ¬ (P.length : Int) = 0 := by omega
        have nP2 : ((P.length : Int) == 0) = false := beq_eq_false_iff_ne.2 (by omega)
        go_wp2
        go_quiet (fail)
        go_wp2
        go_loopw [27] (fun i wr => ∃ k : Nat, k ≤ P.length ∧ i = .int .i64 (k : Int) ∧ Below wx.heap.size wx wr ∧ Below w.heap.size w wr) (fun i _ => P.length - (intOf i).toNat)
        case atStart => exact ⟨0, Nat.zero_le _, rfl, (Below.refl _ _).drewN _, B.drewN _⟩
        case round =>
          obtain ⟨k, hk, rfl, hB, hBw⟩ := hrel
          by_cases hp : k < P.length
          · have k1 : wr.cell? ⟨gP, k, none⟩ = some (.int .i64 (P[k]'hp)) := by rw [(bcell hB).1 gP k hgP2]; exact hcP.out k hp
            have KZ := Lib.hid (CL.out _ (List.getElem_mem hp))
            have kx2 : wr.cell? ⟨gx, 0, none⟩ = some (.int .i64 p3) := by rw [(bcell hB).1 gx 0 hgx]; exact kx
            have hkq : k < qP := by omega
            generalize P[k]'hp = z at k1 KZ
            go_wp2_with fail
            refine (KZ.out _).mono ?_
            rintro e wq ⟨rfl, bq⟩
            have kx3 : wq.cell? ⟨gx, 0, none⟩ = some (.int .i64 p3) := by rw [(bcell (hB.then bq)).1 gx 0 hgx]; exact kx
            go_wp2
            go_roundw
            case rel => exact ⟨k + 1, by omega, by go_num, hB.then bq, hBw.then bq⟩
            case measure => simp [intOf]; omega
          · go_wp2
            go_ret
            exact ⟨rfl, hBw⟩
    · skip
      by_cases hC : c1 ≠ 0 ∨ x.size < 2
      · have hP := G1.out hC
        subst hP
        obtain ⟨aa, cc, rfl⟩ := o1.empty
        clear o1 G1 G2 CX G3 G4 CU
        by_cases hc : c1 = 0
        · have hs2 : (x.size : Int) < 2 := by omega
          go_wp2_with fail
          go_ret
          exact ⟨rfl, B⟩
        · go_wp2_with fail
          go_ret
          exact ⟨rfl, B⟩
      · have hc : c1 = 0 := by omega
        have hs2 : ¬ (x.size : Int) < 2 := by omega
        obtain ⟨rfl, hx60, p3, tl3, c, s, rfl, hP, n1, n2, n3, n4⟩ := G2.out hc (by omega)
        have CL := Lib.hid fun z (hz : z ∈ P) w => (show Calls Try.prog 41 #[.string x, .int .i64 z] w fun e w' => e = .returned (.tuple #[.int .i64 p3, .int .i64 0]) ∧ Below w.heap.size w w' from by
          have h9 := n4 z hz
          have h8 := impl_LocalPeriod x z w sx (by simp [Lit.wf, IntKind.min, IntKind.max, IntKind.signed, IntKind.bits]; omega)
          rw [h9.1] at h8
          exact h8)
        clear n4 G1 G2 G3 G4 CU hC
        subst hc
        have hlP : 0 < P.length := by rw [hP]; simp
        have hP0 : P[0]'hlP = c := by simp [hP]
        clear hP
        obtain ⟨gP, qP, rfl, _, hgP, hqP, hmP, cellP, _⟩ := o1.row hlP
        unfold Go.maxLen at hmP
        go_wp2_with fail
        refine (CX.out _).mono ?_
        rintro e wx ⟨vx, rfl, ox, bx⟩
        have B := B.then bx
        obtain ⟨gx, qx, rfl, _, hgx, hqx, _, cellx, _⟩ := ox.row (by simp)
        have kx : wx.cell? ⟨gx, 0, none⟩ = some (.int .i64 p3) := cellx 0 (by simp)
        have kP : wx.cell? ⟨gP, 0, none⟩ = some (.int .i64 c) := by rw [(bcell bx).1 gP 0 hgP, cellP 0 hlP, hP0]
        have hcP := Lib.hid (fun k (hk : k < P.length) => ((bcell bx).1 gP k hgP).trans (cellP k hk))
        have hgP2 : gP < wx.heap.size := Nat.lt_of_lt_of_le hgP bx.size
        have hlx : 0 < (p3 :: tl3).length := by simp
        clear cellP cellx o1 ox CX bx hP0
        generalize hnx : (p3 :: tl3).length = nx at *
        have hqP0 : 0 < qP := by omega
        have hqx0 : 0 < qx := by omega
        have nP1 : ¬ (P.length : Int) = 0 := by omega
        have nP2 : ((P.length : Int) == 0) = false := beq_eq_false_iff_ne.2 (by omega)
        go_wp2
        go_quiet (fail)
        go_wp2
        go_loopw [27] (fun i wr => ∃ k : Nat, k ≤ P.length ∧ i = .int .i64 (k : Int) ∧ Below wx.heap.size wx wr ∧ Below w.heap.size w wr) (fun i _ => P.length - (intOf i).toNat)
        case atStart => exact ⟨0, Nat.zero_le _, rfl, (Below.refl _ _).drewN _, B.drewN _⟩
        case round =>
          obtain ⟨k, hk, rfl, hB, hBw⟩ := hrel
          by_cases hp : k < P.length
          · have k1 : wr.cell? ⟨gP, k, none⟩ = some (.int .i64 (P[k]'hp)) := by rw [(bcell hB).1 gP k hgP2]; exact hcP.out k hp
            have KZ := Lib.hid (CL.out _ (List.getElem_mem hp))
            have kx2 : wr.cell? ⟨gx, 0, none⟩ = some (.int .i64 p3) := by rw [(bcell hB).1 gx 0 hgx]; exact kx
            have hkq : k < qP := by omega
            generalize P[k]'hp = z at k1 KZ
            go_wp2_with fail
            refine (KZ.out _).mono ?_
            rintro e wq ⟨rfl, bq⟩
            have kx3 : wq.cell? ⟨gx, 0, none⟩ = some (.int .i64 p3) := by rw [(bcell (hB.then bq)).1 gx 0 hgx]; exact kx
            go_wp2
            go_roundw
            case rel => exact ⟨k + 1, by omega, by go_num, hB.then bq, hBw.then bq⟩
            case measure => simp [intOf]; omega
          · go_wp2
            go_ret
            exact ⟨rfl, hBw⟩

theorem own : ownKnob Try.prog.godebug = none := by kernel_rfl
theorem laidOut : laidOutB Try.prog = true := by kernel_rfl

set_option maxRecDepth 100000 in
theorem lifted (os : Os) (started : os.Started) (H : Type) (enc : TypeId × Value → H) :
    ReturnsInHanded {} Try.checked os 4 .any (Rows.fnCriticalSpec.pre6 enc Try.prog Try.f4 Rows.fnCriticalRow.domain false) (Rows.fnCriticalSpec.post enc Try.prog Try.f4 false true false false) := by
  refine returnsInHanded_of_change (C := Try.checked) own started (by kernel_rfl) Try.func4
    (ChangeSpec.witness6 (enc := enc) (C := Try.checked) false ⟨#[], #[.slice none 0 0], []⟩ 8 (by kernel_rfl) (by kernel_rfl) (by kernel_rfl) (by kernel_rfl)) ?_
  intro W base args ds gs before hval0 hW hcnd _
  have hval : ∀ (j : Nat) t v, Try.f4.params[j]? = some t → args[j]? = some v → Value.okWide Try.prog W .any base t v := hval0
  have hW' := hW
  obtain ⟨p, q, hA0, hV, rfl, hfz, hnd⟩ := hW
  have hA : DataW.TrodAll enc Try.prog W 0 (fun _ => true) true Try.f4.params.toList args.toList ds p := hA0
  rw [Try.params4] at hA hval
  obtain ⟨v0, vs0, d0, ds0, p0, q0, hargs, rfl, rfl, h0, r0⟩ := trodAll_cons hA
  obtain ⟨rfl, rfl, rfl⟩ := trodAll_nil r0
  obtain rfl : args = #[v0] := by cases args; simp_all
  obtain ⟨rfl, rfl⟩ := trodVars_none hV
  obtain ⟨a0, len0, cap0, rfl⟩ := okWide_slice Try.underlying22 (hval 0 22 v0 rfl rfl)
  have k0 := h0
  have lt0 : ∀ x ∈ p0, x.block < W.heap.size := by obtain ⟨m, hm⟩ := k0; exact DataW.trod_lt m _ _ _ hm
  obtain ⟨z0, w0⟩ : ∃ zs, IsRow .u8 W a0 len0 cap0 zs := by
    obtain ⟨fuel, hf⟩ := h0
    rcases open_ints Try.underlying22 Try.underlying5 (by kernel_rfl) hf with ⟨hcs, _⟩ | ⟨x, l, c, zs, hcs, _, hl, hm, hz, _, hcell, hwz⟩
    · simp [Value.cells] at hcs
      obtain ⟨rfl, rfl, rfl⟩ := hcs
      exact ⟨[], .inl ⟨rfl, rfl, rfl, rfl⟩⟩
    · simp [Value.cells] at hcs
      obtain ⟨rfl, rfl, rfl⟩ := hcs
      exact ⟨zs, .inr ⟨_, rfl, hl, hm, by simpa using hz, hcell, hwz⟩⟩
  clear hA0 hval0
  refine (walk a0 len0 cap0 z0 W w0).mono fun e W' ⟨he, bel⟩ => ?_
  subst he
  exact ⟨_, rfl, _, _, _, [], _, [], hW', trodAll_mk1 (shut_bool Try.underlying4 _), (trodAll_cons_mk (Below.trod laidOut (by kernel_rfl) (of_decide_eq_true (by kernel_rfl)) k0 bel lt0) trodAll_mk0), rfl, bel.frame _, fun h => by cases h⟩

theorem over : Rows.fnCriticalRow.holds Try.pinned (OpenSpec.ofChange Rows.fnCriticalSpec) :=
  OpenClaim.holds_of_wide 4 Try.f4 rfl rfl rfl rfl rfl rfl rfl ⟨rfl, rfl, rfl, rfl, rfl⟩ rfl rfl rfl rfl rfl (by kernel_rfl) Try.func4 (by kernel_rfl)
    (of_decide_eq_true (by kernel_rfl)) (by unfold Func.isWrapper; first | (rw [if_pos (by decide +kernel)]; kernel_rfl) | (rw [if_neg (by decide +kernel)]; exact ⟨rfl, rfl⟩))
    (fun os started H enc _ => lifted os started H enc)

theorem proved : Rows.FnCriticalSaid := over
#print axioms proved

end Go.Proofs.Ytinanajagkilaaa.fnCritical
