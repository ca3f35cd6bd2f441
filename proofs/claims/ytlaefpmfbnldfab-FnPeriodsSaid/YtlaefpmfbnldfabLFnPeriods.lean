/- For every bytes: what the program says of roots, periods, borders, exponents and turns of the drawn word hangs together. No condition. -/
import Derived.Test.YtlaefpmfbnldfabFnPeriods
import Derived.Test.YtlaefpmfbnldfabTurn
import Derived.Test.YtlaefpmfbnldfabRows
import Derived.WalkKit
import Derived.ProofKit
import Derived.OpenShut
import Derived.ShutString
import Derived.ChangeOld
import Derived.Below
namespace Go.Proofs.Ytlaefpmfbnldfab.fnPeriods
open Go.ChangeShapes Go.WideShapes Go.ChangeAt Go.RowKit
open Go.ChangeMaps (open_string shut_string)
set_option linter.unusedVariables false
set_option linter.unusedSimpArgs false

set_option maxRecDepth 100000 in
set_option maxHeartbeats 4000000 in
theorem walk (a0 : Option Addr) (len0 cap0 : Nat) (z0 : List Int) (w : World) (w0 : IsRow .u8 w a0 len0 cap0 z0) :
    Calls Try.prog 4 #[.slice a0 len0 cap0] w fun e w' => e = .returned (.bool true) ∧ Below w.heap.size w w' := by
  by_cases hbig : 4096 < len0
  · have C0 := Lib.hid (big_yes a0 len0 cap0 w hbig)
    clear w0
    go_enter Try.func4, Try.ntmps4
    go_wp2_with fail
    refine C0.out.mono ?_
    rintro e w1 ⟨rfl, b1⟩
    go_wp2_with fail
    go_ret
    exact ⟨rfl, b1⟩
  have C0 := Lib.hid (big_no a0 len0 cap0 w (by omega))
  have CD := Lib.hid (fun (w' : World) (b : Below w.heap.size w w') => DrawRootOf_any a0 len0 cap0 z0 w' (w0.below b) (by omega))
  clear w0 hbig
  go_enter Try.func4, Try.ntmps4
  go_wp2_with fail
  refine C0.out.mono ?_
  rintro e w1 ⟨rfl, b1⟩
  go_wp2_with fail
  refine (CD.out _ b1).mono ?_
  rintro e w2 ⟨x, rfl, hx, b2⟩
  have B := b1.then b2
  clear C0 CD b1 b2
  have sx := SomeT.maxLen hx
  have hA := per_case x
  have i1 := fun w => impl_RootOf x w sx
  have s1 := fun w => spec_RootOf x w sx
  have i2 := fun w => impl_PeriodsOf x w sx
  have s2 := fun w => spec_PeriodsOf x w sx
  have i3 := fun w => impl_BordersOf x w sx
  have s3 := fun w => spec_BordersOf x w sx
  have i4 := fun w => impl_ExponentOf x w sx
  have s4 := fun w => spec_ExponentOf x w sx
  have i5 := fun w => impl_LeastTurned x w sx
  have s5 := fun w => spec_LeastTurned x w sx
  have i6 := fun w => impl_CountTurned x w sx
  have s6 := fun w => spec_CountTurned x w sx
  generalize (rootR x).1 = r at hA i1 s1
  generalize (rootR x).2.1 = k at hA i1 s1
  generalize (rootR x).2.2 = c1 at hA i1 s1
  generalize (periodsR x).1 = L at hA i2 s2
  generalize (periodsR x).2 = cp at hA i2 s2
  generalize (bordersR x).1 = M at hA i3 s3
  generalize (bordersR x).2 = cb at hA i3 s3
  generalize (expR x).1 = n at hA i4 s4
  generalize (expR x).2.1 = p at hA i4 s4
  generalize (expR x).2.2 = c2 at hA i4 s4
  generalize (ltR x).1 = t at hA i5 s5
  generalize (ltR x).2.1 = j at hA i5 s5
  generalize (ltR x).2.2 = c3 at hA i5 s5
  generalize (countTR x).1 = u at hA i6 s6
  generalize (countTR x).2 = c4 at hA i6 s6
  have I1 := Lib.hid i1
  have S1 := Lib.hid s1
  have I2 := Lib.hid i2
  have S2 := Lib.hid s2
  have I3 := Lib.hid i3
  have S3 := Lib.hid s3
  have I4 := Lib.hid i4
  have S4 := Lib.hid s4
  have I5 := Lib.hid i5
  have S5 := Lib.hid s5
  have I6 := Lib.hid i6
  have S6 := Lib.hid s6
  have HA := Lib.hid hA
  clear i1 s1 i2 s2 i3 s3 i4 s4 i5 s5 i6 s6 hA
  go_wp2_with fail
  refine (I1.out _).mono ?_
  rintro e w3 ⟨rfl, b3⟩
  have B := B.then b3
  go_wp2_with fail
  refine (S1.out _).mono ?_
  rintro e w4 ⟨rfl, b4⟩
  have B := B.then b4
  clear b3 b4 I1 S1
  go_wp2_with fail
  refine (I2.out _).mono ?_
  rintro e w5 ⟨v1, rfl, o1, b5⟩
  have B := B.then b5
  go_wp2_with fail
  refine (S2.out _).mono ?_
  rintro e w6 ⟨v2, rfl, o2, b6⟩
  have B := B.then b6
  have o1 := o1.below b6
  clear b5 b6 I2 S2
  go_wp2_with fail
  refine (likeInts_yes _ _ _ _ L _ o1 o2).mono ?_
  rintro e w7 ⟨rfl, b7⟩
  have B := B.then b7
  have o1 := o1.below b7
  clear b7 o2
  go_wp2_with fail
  refine (I3.out _).mono ?_
  rintro e w8 ⟨v3, rfl, o3, b8⟩
  have B := B.then b8
  have o1 := o1.below b8
  go_wp2_with fail
  refine (S3.out _).mono ?_
  rintro e w9 ⟨v4, rfl, o4, b9⟩
  have B := B.then b9
  have o1 := o1.below b9
  have o3 := o3.below b9
  clear b8 b9 I3 S3
  go_wp2_with fail
  refine (likeInts_yes _ _ _ _ M _ o3 o4).mono ?_
  rintro e w10 ⟨rfl, b10⟩
  have B := B.then b10
  have o1 := o1.below b10
  have o3 := o3.below b10
  clear b10 o4
  go_wp2_with fail
  refine (I4.out _).mono ?_
  rintro e w11 ⟨rfl, b11⟩
  have B := B.then b11
  have o1 := o1.below b11
  have o3 := o3.below b11
  go_wp2_with fail
  refine (S4.out _).mono ?_
  rintro e w12 ⟨rfl, b12⟩
  have B := B.then b12
  have o1 := o1.below b12
  have o3 := o3.below b12
  clear b11 b12 I4 S4
  go_wp2_with fail
  refine (I5.out _).mono ?_
  rintro e w13 ⟨rfl, b13⟩
  have B := B.then b13
  have o1 := o1.below b13
  have o3 := o3.below b13
  go_wp2_with fail
  refine (S5.out _).mono ?_
  rintro e w14 ⟨rfl, b14⟩
  have B := B.then b14
  have o1 := o1.below b14
  have o3 := o3.below b14
  clear b13 b14 I5 S5
  go_wp2_with fail
  refine (I6.out _).mono ?_
  rintro e w15 ⟨rfl, b15⟩
  have B := B.then b15
  have o1 := o1.below b15
  have o3 := o3.below b15
  go_wp2_with fail
  refine (S6.out _).mono ?_
  rintro e w16 ⟨rfl, b16⟩
  have B := B.then b16
  have o1 := o1.below b16
  have o3 := o3.below b16
  clear b15 b16 I6 S6
  rcases HA.out with ⟨hc, hr, he⟩ | ⟨rfl, A⟩
  · subst hr he
    clear HA
    go_wp2_with fail
    go_ret
    exact ⟨rfl, B⟩
  · clear HA
    obtain ⟨rfl, rfl, rfl, rfl, rfl⟩ := A.codes
    obtain ⟨l0, l1, l2⟩ := A.len
    obtain ⟨g1, q1, rfl, _, hg1, hq1, hm, cell1, _⟩ := o1.row l0
    obtain ⟨g2, q2, rfl, _, hg2, hq2, _, cell2, _⟩ := o3.row (by omega)
    have hd := A.head (L[0]'l0) (List.getElem?_eq_getElem l0)
    have cell10 := cell1 0 l0
    have hs : ∀ i (h : i < L.length) (h2 : M.length - 1 - i < M.length), L[i]'h + M[M.length - 1 - i]'h2 = x.size ∧ (0 ≤ L[i]'h ∧ L[i]'h ≤ 60) ∧ (0 ≤ M[M.length - 1 - i]'h2 ∧ M[M.length - 1 - i]'h2 ≤ 60) := fun i h h2 => ⟨A.sum i h h2, A.small _ (List.getElem_mem h), A.smallM _ (List.getElem_mem h2)⟩
    have HS := Lib.hid hs
    have C1 := Lib.hid cell1
    have C2 := Lib.hid cell2
    obtain ⟨np1, np2, np3, np4⟩ := A.np
    generalize L[0]'l0 = z at hd cell10
    obtain ⟨e1, z1, z2⟩ := hd
    have e2 : 0 ≤ n * z := Int.mul_nonneg np1 z1
    have e3 : n * z ≤ 3600 := Int.mul_le_mul np2 z2 z1 (by decide)
    have e4 : 0 ≤ p * (x.size : Int) := by rw [← e1]; exact e2
    have e5 : p * (x.size : Int) ≤ 3600 := by rw [← e1]; exact e3
    have hq10 : 0 < q1 := by omega
    have HA := Lib.hid A
    clear A hs cell1 cell2 o1 o3
    go_wp2
    go_loopw [34] (fun i wr => ∃ m : Nat, m ≤ L.length ∧ i = .int .i64 m ∧ Below w16.heap.size w16 wr) (fun i _ => L.length - (intOf i).toNat)
    case atStart => exact ⟨0, Nat.zero_le _, rfl, Below.refl _ _⟩
    case round =>
      obtain ⟨i, hi, rfl, hB⟩ := hrel
      by_cases hp : i < L.length
      · have k1 : wr.cell? ⟨g1, i, none⟩ = some (.int .i64 (L[i]'hp)) := by rw [(bcell hB).1 g1 i hg1]; exact C1.out i hp
        have hpm : M.length - 1 - i < M.length := by omega
        have k2 : wr.cell? ⟨g2, M.length - 1 - i, none⟩ = some (.int .i64 (M[M.length - 1 - i]'hpm)) := by rw [(bcell hB).1 g2 _ hg2]; exact C2.out _ hpm
        obtain ⟨f1, ⟨f2, f3⟩, f4, f5⟩ := HS.out i hp hpm
        have hpc1 : i < q1 := by omega
        have hpc2 : M.length - 1 - i < q2 := by omega
        generalize L[i]'hp = y1 at k1 f1 f2 f3
        generalize M[M.length - 1 - i]'hpm = y2 at k2 f1 f4 f5
        obtain ⟨m, hm2⟩ : ∃ m, M.length - 1 - i = m := ⟨_, rfl⟩
        rw [hm2] at k2 hpc2 hpm
        have hm3 : (M.length : Int) = m + 1 + i := by omega
        go_wp2
        go_quiet (fail)
        go_wp2
        go_roundw
        case rel => exact ⟨i + 1, by omega, by go_num, hB.drewN _⟩
        case measure => simp [intOf]; omega
      · have A := HA.out
        have rs := A.rs
        have kk := A.kk
        have jj := A.jj
        have CP := impl_PowerOf r k wr (by unfold Go.maxLen; omega) (wf_in (by omega) (by omega))
        have CT := fun w => impl_TurnWord x j w sx (wf_in (by omega) (by omega))
        rw [A.power] at CP
        rw [A.turn] at CT
        have hu := A.count
        have CP := Lib.hid CP
        have CT := Lib.hid CT
        clear A HA
        go_wp2_with fail
        refine CP.out.mono ?_
        rintro e w17 ⟨rfl, b17⟩
        have B := B.then (hB.then b17)
        go_wp2_with fail
        refine (CT.out _).mono ?_
        rintro e w18 ⟨rfl, b18⟩
        have B := B.then b18
        go_wp2_with fail
        go_ret
        exact ⟨rfl, B⟩

theorem own : ownKnob Try.prog.godebug = none := by kernel_rfl
theorem laidOut : laidOutB Try.prog = true := by kernel_rfl

set_option maxRecDepth 100000 in
theorem lifted (os : Os) (started : os.Started) (H : Type) (enc : TypeId × Value → H) :
    ReturnsInHanded {} Try.checked os 4 .any (Rows.fnPeriodsSpec.pre6 enc Try.prog Try.f4 Rows.fnPeriodsRow.domain false) (Rows.fnPeriodsSpec.post enc Try.prog Try.f4 false true false false) := by
  refine returnsInHanded_of_change (C := Try.checked) own started (by kernel_rfl) Try.func4
    (ChangeSpec.witness6 (enc := enc) (C := Try.checked) false ⟨#[], #[.slice none 0 0], []⟩ 8 (by kernel_rfl) (by kernel_rfl) (by kernel_rfl) (by kernel_rfl)) ?_
  intro W base args ds gs before hval0 hW hcnd _
  have hval : ∀ (j : Nat) t v, Try.f4.params[j]? = some t → args[j]? = some v → Value.okWide Try.prog W .any base t v := hval0
  have hW' := hW
  obtain ⟨p, q, hA0, hV, rfl, hfz, hnd⟩ := hW
  have hA : DataW.TrodAll enc Try.prog W 0 (fun _ => true) true Try.f4.params.toList args.toList ds p := hA0
  rw [Try.params4] at hA hval
  obtain ⟨v0, vs0, d0, ds0, p0, q0, hargs, rfl, rfl, h0, r0⟩ := trodAll_cons hA
  obtain ⟨rfl, rfl, rfl⟩ := trodAll_nil r0
  obtain rfl : args = #[v0] := by cases args; simp_all
  obtain ⟨rfl, rfl⟩ := trodVars_none hV
  obtain ⟨a0, len0, cap0, rfl⟩ := okWide_slice Try.underlying25 (hval 0 25 v0 rfl rfl)
  have k0 := h0
  have lt0 : ∀ x ∈ p0, x.block < W.heap.size := by obtain ⟨m, hm⟩ := k0; exact DataW.trod_lt m _ _ _ hm
  obtain ⟨z0, w0⟩ : ∃ zs, IsRow .u8 W a0 len0 cap0 zs := by
    obtain ⟨fuel, hf⟩ := h0
    rcases open_ints Try.underlying25 Try.underlying5 (by kernel_rfl) hf with ⟨hcs, _⟩ | ⟨x, l, c, zs, hcs, _, hl, hm, hz, _, hcell, hwz⟩
    · simp [Value.cells] at hcs
      obtain ⟨rfl, rfl, rfl⟩ := hcs
      exact ⟨[], .inl ⟨rfl, rfl, rfl, rfl⟩⟩
    · simp [Value.cells] at hcs
      obtain ⟨rfl, rfl, rfl⟩ := hcs
      exact ⟨zs, .inr ⟨_, rfl, hl, hm, by simpa using hz, hcell, hwz⟩⟩
  clear hA0 hval0
  refine (walk a0 len0 cap0 z0 W w0).mono fun e W' ⟨he, bel⟩ => ?_
  subst he
  exact ⟨_, rfl, _, _, _, [], _, [], hW', trodAll_mk1 (shut_bool Try.underlying4 _), (trodAll_cons_mk (Below.trod laidOut (by kernel_rfl) (of_decide_eq_true (by kernel_rfl)) k0 bel lt0) trodAll_mk0), rfl, bel.frame _, fun h => by cases h⟩

theorem over : Rows.fnPeriodsRow.holds Try.pinned (OpenSpec.ofChange Rows.fnPeriodsSpec) :=
  OpenClaim.holds_of_wide 4 Try.f4 rfl rfl rfl rfl rfl rfl rfl ⟨rfl, rfl, rfl, rfl, rfl⟩ rfl rfl rfl rfl rfl (by kernel_rfl) Try.func4 (by kernel_rfl)
    (of_decide_eq_true (by kernel_rfl)) (by unfold Func.isWrapper; first | (rw [if_pos (by decide +kernel)]; kernel_rfl) | (rw [if_neg (by decide +kernel)]; exact ⟨rfl, rfl⟩))
    (fun os started H enc _ => lifted os started H enc)

theorem proved : Rows.FnPeriodsSaid := over
#print axioms proved

end Go.Proofs.Ytlaefpmfbnldfab.fnPeriods
