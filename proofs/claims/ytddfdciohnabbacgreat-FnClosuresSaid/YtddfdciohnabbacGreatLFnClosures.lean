/- For every bytes: what the program says of the drawn words' parts, closures, directed words and closed words is as the model tells, and hangs together. No condition. -/
import Derived.Test.YtddfdciohnabbacGreatW11
import Derived.Test.YtddfdciohnabbacGreatW10
import Derived.Test.YtddfdciohnabbacGreatFpI
import Derived.Test.YtddfdciohnabbacGreatFpS
import Derived.Test.YtddfdciohnabbacGreatDir
import Derived.Test.YtddfdciohnabbacGreatPalEnd
import Derived.WalkKit
import Derived.ProofKit
import Derived.OpenShut
import Derived.ShutString
import Derived.ChangeOld
import Derived.Below
import Derived.HandedShaped
import Derived.Deep.Cut
import Derived.Deep.CutRange
import Derived.Deep.LoopGhost
namespace Go.Proofs.YtddfdciohnabbacGreat.fnClosures
open Go.ChangeShapes Go.WideShapes Go.ChangeAt Go.RowKit
open Go.ChangeMaps (open_string shut_string)
set_option linter.unusedVariables false
set_option linter.unusedSimpArgs false

set_option maxRecDepth 100000 in
set_option maxHeartbeats 4000000 in
theorem walk (a0 : Option Addr) (len0 cap0 : Nat) (z0 : List Int) (w : World) (w0 : IsRow .u8 w a0 len0 cap0 z0) (hM : MaxOK w) :
    Calls Tryz.prog 3 #[.slice a0 len0 cap0] w fun e w' => e = .returned (.bool true) ∧ Below w.heap.size w w' := by
  by_cases hbig : 4096 < len0
  · have C0 := Lib.hid (big_yes a0 len0 cap0 w hbig)
    clear w0
    go_enter Tryz.func3, Tryz.ntmps3
    go_wp2_with fail
    refine C0.out.mono ?_
    rintro e w1 ⟨rfl, b1⟩
    go_wp2_with fail
    go_ret
    exact ⟨rfl, b1⟩
  have C0 := Lib.hid (big_no a0 len0 cap0 w (by omega))
  have D1 := Lib.hid (fun (w' : World) (b : Below w.heap.size w w') => DrawFewestParts_any a0 len0 cap0 z0 w' (w0.below b) (by omega))
  have D2 := Lib.hid (fun (w' : World) (b : Below w.heap.size w w') => DrawDirectedWord_any a0 len0 cap0 z0 w' (w0.below b) (by omega))
  have D3 := Lib.hid (fun (w' : World) (b : Below w.heap.size w w') => DrawIsClosedWord_any a0 len0 cap0 z0 w' (w0.below b) (by omega))
  have D4 := Lib.hid (fun (w' : World) (b : Below w.heap.size w w') => DrawCountClosed_any a0 len0 cap0 z0 w' (w0.below b) (by omega))
  have HM := Lib.hid hM
  clear w0 hbig hM
  go_enter Tryz.func3, Tryz.ntmps3
  go_wp2_with fail
  refine C0.out.mono ?_
  rintro e w1 ⟨rfl, b1⟩
  go_wp2_with fail
  refine (D1.out _ b1).mono ?_
  rintro e w2 ⟨x, rfl, hx, b2⟩
  have B := b1.then b2
  clear C0 D1 b1 b2
  have sx : x.size ≤ maxLen := by unfold maxLen; omega
  have g1 := parts_cases x
  have g2 := clo_cases x
  have i1 := fun w => impl_FewestParts x w sx
  have s1 := fun w => spec_FewestParts x w sx
  have i2 := fun w => impl_ClosureOf x w sx
  have s2 := fun w => spec_ClosureOf x w sx
  generalize (partsPR x).1 = L at g1 i1 s1
  generalize (partsPR x).2 = c1 at g1 i1 s1
  generalize (cloR x).1 = u at g2 i2 s2
  generalize (cloR x).2 = c2 at g2 i2 s2
  have I1 := Lib.hid i1
  have S1 := Lib.hid s1
  have I2 := Lib.hid i2
  have S2 := Lib.hid s2
  have G1 := Lib.hid g1
  have G2 := Lib.hid g2
  clear i1 s1 i2 s2 g1 g2
  go_wp2_with fail
  refine (I1.out _).mono ?_
  rintro e w3 ⟨v1, rfl, o1, b3⟩
  have B := B.then b3
  clear b3
  go_wp2_with fail
  refine (S1.out _).mono ?_
  rintro e w4 ⟨v2, rfl, o2, b4⟩
  have B := B.then b4
  have o1 := o1.below b4
  clear b4
  go_wp2_with fail
  refine (words9_yes _ _ _ _ L _ o1 o2).mono ?_
  rintro e w5 ⟨rfl, b5⟩
  have B := B.then b5
  have o1 := o1.below b5
  clear b5 o2 I1 S1
  go_wp2_with fail
  refine (I2.out _).mono ?_
  rintro e w6 ⟨rfl, b6⟩
  have B := B.then b6
  have o1 := o1.below b6
  clear b6
  go_wp2_with fail
  refine (S2.out _).mono ?_
  rintro e w7 ⟨rfl, b7⟩
  have B := B.then b7
  have o1 := o1.below b7
  clear b7
  clear I2 S2
  go_wp2_with fail
  refine (D2.out _ B).mono ?_
  rintro e w8 ⟨y, rfl, hy, b8⟩
  have B := B.then b8
  have o1 := o1.below b8
  clear b8 D2
  have sy : y.size ≤ maxLen := by unfold maxLen; omega
  have g3 := dir_cases y
  have i3 := fun w => impl_DirectedWord y w sy
  have s3 := fun w => spec_DirectedWord y w sy
  generalize (dirR y).1 = d at g3 i3 s3
  generalize (dirR y).2 = c3 at g3 i3 s3
  have I3 := Lib.hid i3
  have S3 := Lib.hid s3
  have G3 := Lib.hid g3
  clear i3 s3 g3
  go_wp2_with fail
  refine (I3.out _).mono ?_
  rintro e w9 ⟨rfl, b9⟩
  have B := B.then b9
  have o1 := o1.below b9
  clear b9
  go_wp2_with fail
  refine (S3.out _).mono ?_
  rintro e w10 ⟨rfl, b10⟩
  have B := B.then b10
  have o1 := o1.below b10
  clear b10
  clear I3 S3
  go_wp2_with fail
  refine (D3.out _ B).mono ?_
  rintro e w11 ⟨t, rfl, ht, b11⟩
  have B := B.then b11
  have o1 := o1.below b11
  clear b11 D3
  have st : t.size ≤ maxLen := by unfold maxLen; omega
  have g4 := isc_cases t
  have i4 := fun w (h : MaxOK w) => impl_IsClosedWord t w st h
  have s4 := fun w => spec_IsClosedWord t w st
  have i5 := fun w (h : MaxOK w) => impl_IsPrivileged t w st h
  have s5 := fun w => spec_IsPrivileged t w st
  generalize (iscR t).1 = cl at g4 i4 s4
  generalize (iscR t).2 = c4 at g4 i4 s4
  generalize (isprR t).1 = pr at g4 i5 s5
  generalize (isprR t).2 = c5 at g4 i5 s5
  have I4 := Lib.hid i4
  have S4 := Lib.hid s4
  have I5 := Lib.hid i5
  have S5 := Lib.hid s5
  have G4 := Lib.hid g4
  clear i4 s4 i5 s5 g4
  go_wp2_with fail
  refine (I4.out _ (HM.out.below B)).mono ?_
  rintro e w12 ⟨rfl, b12⟩
  have B := B.then b12
  have o1 := o1.below b12
  clear b12
  go_wp2_with fail
  refine (S4.out _).mono ?_
  rintro e w13 ⟨rfl, b13⟩
  have B := B.then b13
  have o1 := o1.below b13
  clear b13
  go_wp2_with fail
  refine (I5.out _ (HM.out.below B)).mono ?_
  rintro e w14 ⟨rfl, b14⟩
  have B := B.then b14
  have o1 := o1.below b14
  clear b14
  go_wp2_with fail
  refine (S5.out _).mono ?_
  rintro e w15 ⟨rfl, b15⟩
  have B := B.then b15
  have o1 := o1.below b15
  clear b15
  clear I4 S4 I5 S5
  go_wp2_with fail
  refine (D4.out _ B).mono ?_
  rintro e w16 ⟨q, rfl, hq, b16⟩
  have B := B.then b16
  have o1 := o1.below b16
  clear b16 D4
  have sq : q.size ≤ maxLen := by unfold maxLen; omega
  have g6 := cc_cases q
  have i6 := fun w (h : MaxOK w) => impl_CountClosed q w sq h
  have s6 := fun w => spec_CountClosed q w sq
  generalize (ccR q).1 = m1 at g6 i6 s6
  generalize (ccR q).2.1 = m2 at g6 i6 s6
  generalize (ccR q).2.2 = c6 at g6 i6 s6
  have I6 := Lib.hid i6
  have S6 := Lib.hid s6
  have G6 := Lib.hid g6
  clear i6 s6 g6
  go_wp2_with fail
  refine (I6.out _ (HM.out.below B)).mono ?_
  rintro e w17 ⟨rfl, b17⟩
  have B := B.then b17
  have o1 := o1.below b17
  clear b17
  go_wp2_with fail
  refine (S6.out _).mono ?_
  rintro e w18 ⟨rfl, b18⟩
  have B := B.then b18
  have o1 := o1.below b18
  clear b18
  clear I6 S6
  go_upto_region 31 with fail
  go_cut [183] from 168 to 183 (fun s183 wc => s183 = .bool false ∧ OwnS wc (w2.heap.size) v1 L ∧ Below w.heap.size w wc)
  case first =>
    rcases G6.out with h | ⟨h, h1, h2⟩
    · subst h
      go_wp2_with fail
      go_meet
      case rel => exact ⟨rfl, o1, B⟩
    · subst h
      have k1 : decide (m1 < m2) = false := decide_eq_false (by omega)
      by_cases hq0 : 0 < q.size
      · have k2 : decide (0 < q.size) = true := decide_eq_true hq0
        have k2i : (0 : Int) < (q.size : Int) := by omega
        have k3 : decide (m2 < 1) = false := decide_eq_false (by have := h2 hq0; omega)
        have k3i : ¬ m2 < 1 := by have := h2 hq0; omega
        have k1i : ¬ m1 < m2 := by omega
        clear h1 h2
        go_wp2_with fail
        go_meet
        case rel => exact ⟨rfl, o1, B⟩
      · have k2 : decide (0 < q.size) = false := decide_eq_false hq0
        have k2i : ¬ (0 : Int) < (q.size : Int) := by omega
        have k1i : ¬ m1 < m2 := by omega
        clear h1 h2
        go_wp2_with fail
        go_meet
        case rel => exact ⟨rfl, o1, B⟩
  case rest => as_aux_lemma =>
    obtain ⟨rfl, o1, B⟩ := hcut
    clear G6
    go_upto_region 33 with fail
    go_cut [196] from 184 to 196 (fun s196 wc => s196 = .bool false ∧ OwnS wc (w2.heap.size) v1 L ∧ Below w.heap.size w wc)
    case first =>
      rcases G4.out with h | ⟨h, h5, hpc⟩
      · subst h
        go_wp2_with fail
        go_meet
        case rel => exact ⟨rfl, o1, B⟩
      · subst h h5
        cases pr with
        | false =>
          clear hpc
          go_wp2_with fail
          go_meet
          case rel => exact ⟨rfl, o1, B⟩
        | true =>
          have hcl := hpc rfl
          subst hcl
          clear hpc
          go_wp2_with fail
          go_meet
          case rel => exact ⟨rfl, o1, B⟩
    case rest => as_aux_lemma =>
      obtain ⟨rfl, o1, B⟩ := hcut
      clear G4
      go_upto_if 198 with fail
      go_cut [33, 34, 35, 36] from 199 to 222 (fun s33 s34 s35 s36 wd => OwnS wd (w2.heap.size) v1 L ∧ Below w.heap.size w wd)
      case first =>
        rcases G3.out with h | ⟨h, hd, h1, h2⟩
        · have hcf : (c3 == 0) = false := beq_eq_false_iff_ne.2 h
          go_wp2_with fail
          go_meet
          case rel => exact ⟨o1, B⟩
        · subst h
          have sd : d.size ≤ maxLen := by unfold maxLen; omega
          have ip := fun w => impl_IsPalindrome d w sd
          have id0 := fun w => impl_DefectOf d w sd
          rw [h1] at ip
          rw [h2] at id0
          have IP : Hid (∀ w, Calls Tryz.prog 22 #[.string d] w fun e w' => e = .returned (.tuple #[.bool true, .int .i64 0]) ∧ Below w.heap.size w w') := Lib.hid ip
          have ID : Hid (∀ w, Calls Tryz.prog 23 #[.string d] w fun e w' => e = .returned (.tuple #[.int .i64 0, .int .i64 0]) ∧ Below w.heap.size w w') := Lib.hid id0
          clear ip id0 h1 h2 G3
          go_wp2_with fail
          refine (IP.out _).mono ?_
          rintro e x1 ⟨rfl, b⟩
          have B := B.then b
          have o1 := o1.below b
          clear b
          go_wp2_with fail
          refine (ID.out _).mono ?_
          rintro e x2 ⟨rfl, b⟩
          have B := B.then b
          have o1 := o1.below b
          clear b
          go_wp2_with fail
          go_meet
          case rel => exact ⟨o1, B⟩
      case rest => as_aux_lemma =>
        obtain ⟨o1, B⟩ := hcut
        clear G3
        go_upto_if 224 with fail
        go_cut [37, 38] from 225 to 264 (fun s37 s38 wd => OwnS wd (w2.heap.size) v1 L ∧ Below w.heap.size w wd)
        case first =>
          rcases G2.out with h | ⟨h, h1, h2, h3, h4, h5⟩
          · have hcf : (c2 == 0) = false := beq_eq_false_iff_ne.2 h
            go_wp2_with fail
            go_meet
            case rel => exact ⟨o1, B⟩
          · subst h
            have su : u.size ≤ maxLen := by unfold maxLen; omega
            have ip := fun w => impl_IsPalindrome u w su
            rw [h1] at ip
            have IP : Hid (∀ w, Calls Tryz.prog 22 #[.string u] w fun e w' => e = .returned (.tuple #[.bool true, .int .i64 0]) ∧ Below w.heap.size w w') := Lib.hid ip
            have hn : (u.extract 0 x.size).toList = x.toList := congrArg ByteArray.toList h3
            have k1 : decide (u.size < x.size) = false := decide_eq_false (by omega)
            have k1i : ¬ (u.size : Int) < (x.size : Int) := by omega
            have hx60 : x.size ≤ 60 := by omega
            have hw1 : IntKind.i64.wrap (2 * (x.size : Int)) = 2 * (x.size : Int) := IntWalk.i64_in _ (by omega)
            by_cases hx0 : 0 < x.size
            · have k2 : decide (0 < x.size) = true := decide_eq_true hx0
              have k2i : (0 : Int) < (x.size : Int) := by omega
              have h6 := h5 hx0
              have hw2 : IntKind.i64.wrap (2 * (x.size : Int) - 1) = 2 * (x.size : Int) - 1 := IntWalk.i64_in _ (by omega)
              have k3i : ¬ 2 * (x.size : Int) - 1 < (u.size : Int) := by omega
              have k3 : decide (2 * (x.size : Int) - 1 < (u.size : Int)) = false := decide_eq_false k3i
              clear ip h1 h3 h5 G2
              go_wp2_with fail
              refine (IP.out _).mono ?_
              rintro e x1 ⟨rfl, b⟩
              have B := B.then b
              have o1 := o1.below b
              clear b
              go_wp2_with fail
              go_meet
              case rel => exact ⟨o1, B⟩
            · have k2 : decide (0 < x.size) = false := decide_eq_false hx0
              have k2i : ¬ (0 : Int) < (x.size : Int) := by omega
              clear ip h1 h3 h5 G2
              go_wp2_with fail
              refine (IP.out _).mono ?_
              rintro e x1 ⟨rfl, b⟩
              have B := B.then b
              have o1 := o1.below b
              clear b
              go_wp2_with fail
              go_meet
              case rel => exact ⟨o1, B⟩
        case rest => as_aux_lemma =>
          obtain ⟨o1, B⟩ := hcut
          clear G2
          rcases G1.out with ⟨h, h1⟩ | ⟨h, hz, hj, hjl, hll⟩
          · subst h h1
            obtain ⟨ad, cp, rfl⟩ := o1.empty
            go_wp2_with fail
            go_ret
            exact ⟨rfl, B⟩
          · subst h
            have HZ := Lib.hid hz
            have CJ := Lib.hid fun (W : World) (o : OwnS W (w2.heap.size) v1 L) => joined_any (w2.heap.size) v1 L W o (by omega) (by omega)
            rw [hj] at CJ
            obtain ⟨ad, cp, hv, _⟩ := o1.lookQ
            subst hv
            have HLL := Lib.hid hll
            clear hz hj hjl G1
            go_wp2_with fail
            go_loopw [39] (fun i wr => ∃ k : Nat, k ≤ L.length ∧ i = .int .i64 k ∧ OwnS wr (w2.heap.size) (.slice ad L.length cp) L ∧ Below w.heap.size w wr) (fun i _ => L.length - (intOf i).toNat)
            case atStart => exact ⟨0, Nat.zero_le _, rfl, o1, B⟩
            case round =>
              clear o1 B
              obtain ⟨k, hk, rfl, o1, B⟩ := hrel
              by_cases hp : k < L.length
              · obtain ⟨ad', cp', hv', look⟩ := o1.lookQ
                injection hv' with e1 e2 e3
                subst e1 e3
                obtain ⟨g, rfl, hg, hkc, hcell⟩ := look k hp
                obtain ⟨z1, z2, z3⟩ := HZ.out _ (List.getElem_mem hp)
                generalize hzz : L[k]'hp = z at *
                clear hzz
                have sz : z.size ≤ maxLen := by unfold maxLen; omega
                have ip := fun w => impl_IsPalindrome z w sz
                rw [z1] at ip
                have IP : Hid (∀ w, Calls Tryz.prog 22 #[.string z] w fun e w' => e = .returned (.tuple #[.bool true, .int .i64 0]) ∧ Below w.heap.size w w') := Lib.hid ip
                have hze : z.toList.isEmpty = false := by
                  have h9 : (z.toList == (⟨#[]⟩ : ByteArray).toList) = false := teq_no (fun e => by rw [e] at z2; exact absurd z2 (by decide))
                  have h8 : (⟨#[]⟩ : ByteArray).toList = [] := by unfold ByteArray.toList; unfold ByteArray.toList.loop; rfl
                  rw [h8] at h9
                  cases hl : z.toList with
                  | nil => rw [hl] at h9; exact absurd h9 (by decide)
                  | cons a l => rfl
                have hkl : (k : Int) < (L.length : Int) := by omega
                clear ip z1 look e2
                go_wp2_with fail
                refine (IP.out _).mono ?_
                rintro e x1 ⟨rfl, b⟩
                have hcell2 : x1.cell? ⟨g, k, none⟩ = some (.string z) := by rw [(bcell b).1 g k hg]; exact hcell
                have B := B.then b
                have o1 := o1.below b
                clear b hcell
                have O1 := Lib.hid o1
                clear o1
                go_wp2_with fail
                go_roundw
                case rel => exact ⟨k + 1, by omega, by go_num, O1.out, B⟩
                case measure => simp [intOf]; omega
              · obtain rfl : k = L.length := by omega
                have hn := teq_yes (rfl : x = x)
                have O1 := Lib.hid o1
                clear o1
                go_wp2_with fail
                refine (CJ.out _ O1.out).mono ?_
                rintro e x1 ⟨rfl, b⟩
                go_wp2_with fail
                go_ret
                exact ⟨rfl, B.then b⟩

theorem own : ownKnob Tryz.prog.godebug = none := by kernel_rfl
theorem laidOut : laidOutB Tryz.prog = true := by kernel_rfl

set_option maxRecDepth 100000 in
theorem lifted (os : Os) (started : os.Started) (H : Type) (enc : TypeId × Value → H) :
    ReturnsInHanded {} Tryz.checked os 3 .any (Rows.fnClosuresSpec.pre6 enc Tryz.prog Tryz.f3 Rows.fnClosuresRow.domain false) (Rows.fnClosuresSpec.post enc Tryz.prog Tryz.f3 false true false false) := by
  refine returnsInHanded_of_change_shaped (C := Tryz.checked) own started (by kernel_rfl) Tryz.func3
    (ChangeSpec.witness6 (enc := enc) (C := Tryz.checked) false ⟨#[], #[.slice none 0 0], []⟩ 8 (by kernel_rfl) (by kernel_rfl) (by kernel_rfl) (by kernel_rfl)) ?_
  intro W base args ds gs before hval0 hW hcnd hwt hsh _
  have hval : ∀ (j : Nat) t v, Tryz.f3.params[j]? = some t → args[j]? = some v → Value.okWide Tryz.prog W .any base t v := hval0
  have hW' := hW
  obtain ⟨p, q, hA0, hV, rfl, hfz, hnd⟩ := hW
  have hA : DataW.TrodAll enc Tryz.prog W 0 (fun _ => true) true Tryz.f3.params.toList args.toList ds p := hA0
  rw [Tryz.params3] at hA hval
  obtain ⟨v0, vs0, d0, ds0, p0, q0, hargs, rfl, rfl, h0, r0⟩ := trodAll_cons hA
  obtain ⟨rfl, rfl, rfl⟩ := trodAll_nil r0
  obtain rfl : args = #[v0] := by cases args; simp_all
  obtain ⟨rfl, rfl⟩ := trodVars_none hV
  obtain ⟨a0, len0, cap0, rfl⟩ := okWide_slice Tryz.underlying22 (hval 0 22 v0 rfl rfl)
  have k0 := h0
  have lt0 : ∀ x ∈ p0, x.block < W.heap.size := by obtain ⟨m, hm⟩ := k0; exact DataW.trod_lt m _ _ _ hm
  obtain ⟨z0, w0⟩ : ∃ zs, IsRow .u8 W a0 len0 cap0 zs := by
    obtain ⟨fuel, hf⟩ := h0
    rcases open_ints Tryz.underlying22 Tryz.underlying5 (by kernel_rfl) hf with ⟨hcs, _⟩ | ⟨x, l, c, zs, hcs, _, hl, hm, hz, _, hcell, hwz⟩
    · simp [Value.cells] at hcs
      obtain ⟨rfl, rfl, rfl⟩ := hcs
      exact ⟨[], .inl ⟨rfl, rfl, rfl, rfl⟩⟩
    · simp [Value.cells] at hcs
      obtain ⟨rfl, rfl, rfl⟩ := hcs
      exact ⟨zs, .inr ⟨_, rfl, hl, hm, by simpa using hz, hcell, hwz⟩⟩
  clear hA0 hval0
  refine (walk a0 len0 cap0 z0 W w0 (maxOK_of hsh)).mono fun e W' ⟨he, bel⟩ => ?_
  subst he
  exact ⟨_, rfl, _, _, _, [], _, [], hW', trodAll_mk1 (shut_bool Tryz.underlying4 _), (trodAll_cons_mk (Below.trod laidOut (by kernel_rfl) (of_decide_eq_true (by kernel_rfl)) k0 bel lt0) trodAll_mk0), rfl, bel.frame _, fun h => by cases h⟩

theorem over : Rows.fnClosuresRow.holds Tryz.pinned (OpenSpec.ofChange Rows.fnClosuresSpec) :=
  OpenClaim.holds_of_wide 3 Tryz.f3 rfl rfl rfl rfl rfl rfl rfl ⟨rfl, rfl, rfl, rfl, rfl⟩ rfl rfl rfl rfl rfl (by kernel_rfl) Tryz.func3 (by kernel_rfl)
    (of_decide_eq_true (by kernel_rfl)) (by unfold Func.isWrapper; first | (rw [if_pos (by decide +kernel)]; kernel_rfl) | (rw [if_neg (by decide +kernel)]; exact ⟨rfl, rfl⟩))
    (fun os started H enc _ => lifted os started H enc)

theorem proved : Rows.FnClosuresSaid := over
#print axioms proved

end Go.Proofs.YtddfdciohnabbacGreat.fnClosures
