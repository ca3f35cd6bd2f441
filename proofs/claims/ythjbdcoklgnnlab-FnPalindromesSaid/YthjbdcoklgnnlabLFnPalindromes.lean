/- For every bytes: what the program says of the palindromes of the drawn words is as the model tells, and hangs together. No condition. -/
import Derived.Test.YthjbdcoklgnnlabW4
import Derived.Test.YthjbdcoklgnnlabAllPal
import Derived.Test.YthjbdcoklgnnlabCp
import Derived.Test.YthjbdcoklgnnlabLgI
import Derived.Test.YthjbdcoklgnnlabPalEnd
import Derived.Test.YthjbdcoklgnnlabRows
import Derived.WalkKit
import Derived.ProofKit
import Derived.OpenShut
import Derived.ShutString
import Derived.ChangeOld
import Derived.Below
import Derived.Deep.LoopGhost
namespace Go.Proofs.Ythjbdcoklgnnlab.fnPalindromes
open Go.ChangeShapes Go.WideShapes Go.ChangeAt Go.RowKit
open Go.ChangeMaps (open_string shut_string)
set_option linter.unusedVariables false
set_option linter.unusedSimpArgs false

set_option maxRecDepth 100000 in
set_option maxHeartbeats 4000000 in
theorem walk (a0 : Option Addr) (len0 cap0 : Nat) (z0 : List Int) (w : World) (w0 : IsRow .u8 w a0 len0 cap0 z0) :
    Calls Try.prog 7 #[.slice a0 len0 cap0] w fun e w' => e = .returned (.bool true) ∧ Below w.heap.size w w' := by
  by_cases hbig : 4096 < len0
  · have C0 := Lib.hid (big_yes a0 len0 cap0 w hbig)
    clear w0
    go_enter Try.func7, Try.ntmps7
    go_wp2_with fail
    refine C0.out.mono ?_
    rintro e w1 ⟨rfl, b1⟩
    go_wp2_with fail
    go_ret
    exact ⟨rfl, b1⟩
  have C0 := Lib.hid (big_no a0 len0 cap0 w (by omega))
  have CD := Lib.hid (fun (w' : World) (b : Below w.heap.size w w') => DrawPalindromesOf_any a0 len0 cap0 z0 w' (w0.below b) (by omega))
  have CU := Lib.hid (fun (w' : World) (b : Below w.heap.size w w') => DrawIsPalindrome_any a0 len0 cap0 z0 w' (w0.below b) (by omega))
  clear w0 hbig
  go_enter Try.func7, Try.ntmps7
  go_wp2_with fail
  refine C0.out.mono ?_
  rintro e w1 ⟨rfl, b1⟩
  go_wp2_with fail
  refine (CD.out _ b1).mono ?_
  rintro e w2 ⟨x, rfl, hx, b2⟩
  have B := b1.then b2
  clear C0 CD b1 b2
  have sx : x.size ≤ maxLen := by unfold maxLen; omega
  have hA := pal_cases x
  have i1 := fun w => impl_PalindromesOf x w sx
  have s1 := fun w => spec_PalindromesOf x w sx
  have i2 := fun w => impl_CountPalindromes x w sx
  have s2 := fun w => spec_CountPalindromes x w sx
  have i3 := fun w => impl_DefectOf x w sx
  have s3 := fun w => spec_DefectOf x w sx
  have i4 := fun w => impl_LongestPalindrome x w sx
  have s4 := fun w => spec_LongestPalindrome x w sx
  have i5 := fun w => impl_EndLengths x w sx
  have s5 := fun w => spec_EndLengths x w sx
  generalize (palsR x).1 = L at hA i1 s1
  generalize (palsR x).2 = c1 at hA i1 s1
  generalize (cpR x).1 = n at hA i2 s2
  generalize (cpR x).2 = c2 at hA i2 s2
  generalize (defR x).1 = d at hA i3 s3
  generalize (defR x).2 = c3 at hA i3 s3
  generalize (lgR x).1 = lg at hA i4 s4
  generalize (lgR x).2.1 = at4 at hA i4 s4
  generalize (lgR x).2.2 = c4 at hA i4 s4
  generalize (endsR x).1 = E at hA i5 s5
  generalize (endsR x).2 = c5 at hA i5 s5
  have I1 := Lib.hid i1
  have S1 := Lib.hid s1
  have I2 := Lib.hid i2
  have S2 := Lib.hid s2
  have I3 := Lib.hid i3
  have S3 := Lib.hid s3
  have I4 := Lib.hid i4
  have S4 := Lib.hid s4
  have I5 := Lib.hid i5
  have S5 := Lib.hid s5
  have HA := Lib.hid hA
  clear i1 s1 i2 s2 i3 s3 i4 s4 i5 s5 hA
  go_wp2_with fail
  refine (I1.out _).mono ?_
  rintro e w3 ⟨v1, rfl, o1, b3⟩
  have B := B.then b3
  clear b3
  go_wp2_with fail
  refine (S1.out _).mono ?_
  rintro e w4 ⟨v2, rfl, o2, b4⟩
  have B := B.then b4
  have o1 := o1.below b4
  clear b4
  go_wp2_with fail
  refine (words9_yes _ _ _ _ L _ o1 o2).mono ?_
  rintro e w5 ⟨rfl, b5⟩
  have B := B.then b5
  have o1 := o1.below b5
  have o2 := o2.below b5
  clear b5
  clear o2 I1 S1
  go_wp2_with fail
  refine (I2.out _).mono ?_
  rintro e w6 ⟨rfl, b6⟩
  have B := B.then b6
  have o1 := o1.below b6
  clear b6
  go_wp2_with fail
  refine (S2.out _).mono ?_
  rintro e w7 ⟨rfl, b7⟩
  have B := B.then b7
  have o1 := o1.below b7
  clear b7
  clear I2 S2
  go_wp2_with fail
  refine (I3.out _).mono ?_
  rintro e w8 ⟨rfl, b8⟩
  have B := B.then b8
  have o1 := o1.below b8
  clear b8
  go_wp2_with fail
  refine (S3.out _).mono ?_
  rintro e w9 ⟨rfl, b9⟩
  have B := B.then b9
  have o1 := o1.below b9
  clear b9
  clear I3 S3
  go_wp2_with fail
  refine (I4.out _).mono ?_
  rintro e w10 ⟨rfl, b10⟩
  have B := B.then b10
  have o1 := o1.below b10
  clear b10
  go_wp2_with fail
  refine (S4.out _).mono ?_
  rintro e w11 ⟨rfl, b11⟩
  have B := B.then b11
  have o1 := o1.below b11
  clear b11
  clear I4 S4
  go_wp2_with fail
  refine (I5.out _).mono ?_
  rintro e w12 ⟨v5, rfl, o5, b12⟩
  have B := B.then b12
  have o1 := o1.below b12
  clear b12
  go_wp2_with fail
  refine (S5.out _).mono ?_
  rintro e w13 ⟨v6, rfl, o6, b13⟩
  have B := B.then b13
  have o1 := o1.below b13
  have o5 := o5.below b13
  clear b13
  go_wp2_with fail
  refine (likeInts_yes _ _ _ _ E _ o5 o6).mono ?_
  rintro e w14 ⟨rfl, b14⟩
  have B := B.then b14
  have o1 := o1.below b14
  have o5 := o5.below b14
  have o6 := o6.below b14
  clear b14
  clear o6 I5 S5
  go_wp2_with fail
  refine (CU.out _ B).mono ?_
  rintro e w15 ⟨u, rfl, hu, b15⟩
  have B := B.then b15
  have o1 := o1.below b15
  have o5 := o5.below b15
  clear b15 CU
  have su : u.size ≤ maxLen := by unfold maxLen; omega
  have i6 := fun w => impl_IsPalindrome u w su
  have s6 := fun w => spec_IsPalindrome u w su
  generalize (ispR u).1 = yes at i6 s6
  generalize (ispR u).2 = c6 at i6 s6
  have I6 := Lib.hid i6
  have S6 := Lib.hid s6
  clear i6 s6
  go_wp2_with fail
  refine (I6.out _).mono ?_
  rintro e w16 ⟨rfl, b16⟩
  have B := B.then b16
  have o1 := o1.below b16
  have o5 := o5.below b16
  clear b16
  go_wp2_with fail
  refine (S6.out _).mono ?_
  rintro e w17 ⟨rfl, b17⟩
  have B := B.then b17
  have o1 := o1.below b17
  have o5 := o5.below b17
  clear b17
  clear I6 S6
  have i7 := fun (z : ByteArray) (w : World) (hz : z.size ≤ 60) => impl_IsPalindrome z w (by unfold maxLen; omega)
  have i8 := fun (z : ByteArray) (w : World) (hz : z.size ≤ 60) => impl_PlacesOf x z w sx (by unfold maxLen; omega)
  have I7 := Lib.hid i7
  have I8 := Lib.hid i8
  clear i7 i8
  obtain ⟨ad1, cap1, rfl, look1⟩ := o1.lookP
  obtain ⟨ad5, cap5, rfl, look5⟩ := o5.lookP
  have K1 := Lib.hid look1
  have K5 := Lib.hid look5
  clear look1 look5 o1 o5
  rcases HA.out with ⟨rfl, rfl, rfl, rfl, rfl⟩ | ⟨rfl, rfl, rfl, rfl, A⟩
  · clear HA
    go_wp2_with fail
    go_ret
    exact ⟨rfl, B⟩
  clear HA
  have hsm := A.small
  have hmany := A.many
  have hle := A.le
  have hdv := A.dv
  obtain ⟨hc1, hc2⟩ := A.cnt
  have hel := A.elen
  have HA := Lib.hid A
  subst hdv
  have hd0 : decide ((x.size : Int) - (L.length : Int) < 0) = false := decide_eq_false (by omega)
  have hn0 : decide (n < (x.size : Int)) = false := decide_eq_false (by omega)
  have heli : (E.length : Int) = (x.size : Int) := by omega
  clear A hel
  go_wp2
  go_loopg [31, 32] x.size (fun g s i wr => ∃ k : Nat, k + g = x.size ∧ s = .int .i64 (mxE x k : Int) ∧ i = .int .i64 (k : Int) ∧ Below w17.heap.size w17 wr)
  case atStart => exact ⟨0, by omega, rfl, rfl, Below.refl _ _⟩
  case round =>
    obtain ⟨k, hk, rfl, rfl, hB⟩ := hrel
    by_cases hp : k < x.size
    · obtain ⟨g, rfl⟩ : ∃ g, gk = g + 1 := ⟨gk - 1, by omega⟩
      have hpi : (k : Int) < (x.size : Int) := by omega
      have hkE : k < E.length := by have := HA.out.elen; omega
      obtain ⟨g5, rfl, hg5, hkc, kc⟩ := K5.out k hkE
      have kc1 : wr.cell? ⟨g5, k, none⟩ = some (.int .i64 (lpN x (k + 1) : Int)) := by rw [(bcell hB).1 g5 k hg5, kc, HA.out.ends k hkE]
      obtain ⟨o1, o2⟩ := HA.out.one k hp
      have hmx := HA.out.mx k (by omega)
      have HMS : Hid (mxE x (k + 1) = max (mxE x k) (lpN x (k + 1))) := Lib.hid rfl
      have hl1 : decide ((lpN x (k + 1) : Int) < 1) = false := decide_eq_false (by omega)
      cases k with
      | zero =>
        generalize lpN x (0 + 1) = q at *
        generalize mxE x 0 = mm at *
        clear kc
        go_wp2
        go_quiet (fail)
        go_wp2
        go_roundg g
        case measure => omega
        case rel => exact ⟨1, by omega, by rw [HMS.out]; congr 1; omega, rfl, hB.drewN _⟩
      | succ j =>
        have hst := HA.out.step j (by omega)
        have hjE : j < E.length := by omega
        obtain ⟨g6, e6, hg6, hjc, jc⟩ := K5.out j hjE
        obtain rfl : g5 = g6 := by injection e6 with e6; injection e6
        have kc0 : wr.cell? ⟨g5, j, none⟩ = some (.int .i64 (lpN x (j + 1) : Int)) := by rw [(bcell hB).1 g5 j hg5, jc, HA.out.ends j hjE]
        have hqq : decide ((lpN x (j + 1) : Int) + 2 < (lpN x (j + 1 + 1) : Int)) = false := decide_eq_false (by omega)
        obtain ⟨r1, r2⟩ := HA.out.one j (by omega)
        have hj0 : decide ((0 : Int) < (j : Int) + 1) = true := decide_eq_true (by omega)
        generalize lpN x (j + 1 + 1) = q at *
        generalize lpN x (j + 1) = r at *
        generalize mxE x (j + 1) = mm at *
        clear kc jc e6
        go_wp2
        go_quiet (fail)
        go_wp2
        go_roundg g
        case measure => omega
        case rel => exact ⟨j + 1 + 1, by omega, by rw [HMS.out]; congr 1; omega, by go_num, hB.drewN _⟩
    · have hpi : ¬ (k : Int) < (x.size : Int) := by omega
      obtain rfl : k = x.size := by omega
      have hmx := HA.out.mx x.size (Nat.le_refl _)
      have HL : Hid (x.size = 0 ∨ (c4 = 0 ∧ lg.size = mxE x x.size)) := Lib.hid HA.out.long
      generalize mxE x x.size = M at *
      clear hp
      go_wp2
      go_loopg [33] L.length (fun g i wr' => ∃ j : Nat, j + g = L.length ∧ i = .int .i64 (j : Int) ∧ Below w17.heap.size w17 wr')
      case atStart => exact ⟨0, by omega, rfl, hB⟩
      case round =>
        clear hB
        obtain ⟨j, hj, rfl, hB⟩ := hrel
        have BB := B.then hB
        by_cases hp : j < L.length ∧ j < 12
        · obtain ⟨g, rfl⟩ : ∃ g, gk = g + 1 := ⟨gk - 1, by omega⟩
          have hji : (j : Int) < (L.length : Int) := by omega
          have hjb : decide ((j : Int) < (L.length : Int)) = true := decide_eq_true hji
          have hj12 : decide ((j : Int) < 12) = true := decide_eq_true (by omega)
          obtain ⟨g1, rfl, hg1, hjc, jc⟩ := K1.out j hp.1
          have jc1 : wr.cell? ⟨g1, j, none⟩ = some (.string (L[j]'hp.1)) := by rw [(bcell hB).1 g1 j hg1, jc]
          obtain ⟨p1, p2, p3, p4, p5⟩ := HA.out.pals j hp.1
          have C7 := I7.out (L[j]'hp.1) wr p2
          rw [p1] at C7
          have C8 := fun w => I8.out (L[j]'hp.1) w p2
          rw [p3] at C8
          have hg1r : g1 < wr.heap.size := Nat.lt_of_lt_of_le hg1 hB.size
          have H7 := Lib.hid C7
          have H8 := Lib.hid C8
          have hpl : ((placesR x (L[j]'hp.1)).1.length : Int) ≠ 0 := by omega
          clear C7 C8 p1 p3 jc
          generalize (placesR x (L[j]'hp.1)).1 = PL at *
          generalize L[j]'hp.1 = z at *
          clear hp
          go_wp2_with fail
          refine H7.out.mono ?_
          rintro e wa ⟨rfl, ba⟩
          have jc2 := ((bcell ba).1 g1 j hg1r).trans jc1
          go_wp2_with fail
          refine (H8.out _).mono ?_
          rintro e wb ⟨v, rfl, ob, bb⟩
          obtain ⟨adp, capp, rfl, _⟩ := ob.lookP
          have hpl2 : ((PL.length : Int) == 0) = false := by rw [beq_eq_false_iff_ne]; exact hpl
          clear ob jc1 jc2
          go_wp2_with fail
          go_roundg g
          case measure => omega
          case rel => exact ⟨j + 1, by omega, by go_num, (hB.then ba).then bb⟩
        · by_cases hx0 : x.size = 0
          · have hq := teq_nil hx0
            by_cases hj2 : j < L.length
            · have hjb : decide ((j : Int) < (L.length : Int)) = true := decide_eq_true (by omega)
              have hj12 : decide ((j : Int) < 12) = false := decide_eq_false (by omega)
              clear hp
              go_wp2
              go_ret
              exact ⟨rfl, BB⟩
            · have hjb : decide ((j : Int) < (L.length : Int)) = false := decide_eq_false (by omega)
              clear hp
              go_wp2
              go_ret
              exact ⟨rfl, BB⟩
          · have hq := teq_not_nil hx0
            obtain ⟨rfl, hlg⟩ : c4 = 0 ∧ lg.size = M := by rcases HL.out with e | e; exact absurd e hx0; exact e
            subst hlg
            by_cases hj2 : j < L.length
            · have hjb : decide ((j : Int) < (L.length : Int)) = true := decide_eq_true (by omega)
              have hj12 : decide ((j : Int) < 12) = false := decide_eq_false (by omega)
              clear hp
              go_wp2
              go_ret
              exact ⟨rfl, BB⟩
            · have hjb : decide ((j : Int) < (L.length : Int)) = false := decide_eq_false (by omega)
              clear hp
              go_wp2
              go_ret
              exact ⟨rfl, BB⟩

theorem own : ownKnob Try.prog.godebug = none := by kernel_rfl
theorem laidOut : laidOutB Try.prog = true := by kernel_rfl

set_option maxRecDepth 100000 in
theorem lifted (os : Os) (started : os.Started) (H : Type) (enc : TypeId × Value → H) :
    ReturnsInHanded {} Try.checked os 7 .any (Rows.fnPalindromesSpec.pre6 enc Try.prog Try.f7 Rows.fnPalindromesRow.domain false) (Rows.fnPalindromesSpec.post enc Try.prog Try.f7 false true false false) := by
  refine returnsInHanded_of_change (C := Try.checked) own started (by kernel_rfl) Try.func7
    (ChangeSpec.witness6 (enc := enc) (C := Try.checked) false ⟨#[], #[.slice none 0 0], []⟩ 8 (by kernel_rfl) (by kernel_rfl) (by kernel_rfl) (by kernel_rfl)) ?_
  intro W base args ds gs before hval0 hW hcnd _
  have hval : ∀ (j : Nat) t v, Try.f7.params[j]? = some t → args[j]? = some v → Value.okWide Try.prog W .any base t v := hval0
  have hW' := hW
  obtain ⟨p, q, hA0, hV, rfl, hfz, hnd⟩ := hW
  have hA : DataW.TrodAll enc Try.prog W 0 (fun _ => true) true Try.f7.params.toList args.toList ds p := hA0
  rw [Try.params7] at hA hval
  obtain ⟨v0, vs0, d0, ds0, p0, q0, hargs, rfl, rfl, h0, r0⟩ := trodAll_cons hA
  obtain ⟨rfl, rfl, rfl⟩ := trodAll_nil r0
  obtain rfl : args = #[v0] := by cases args; simp_all
  obtain ⟨rfl, rfl⟩ := trodVars_none hV
  obtain ⟨a0, len0, cap0, rfl⟩ := okWide_slice Try.underlying31 (hval 0 31 v0 rfl rfl)
  have k0 := h0
  have lt0 : ∀ x ∈ p0, x.block < W.heap.size := by obtain ⟨m, hm⟩ := k0; exact DataW.trod_lt m _ _ _ hm
  obtain ⟨z0, w0⟩ : ∃ zs, IsRow .u8 W a0 len0 cap0 zs := by
    obtain ⟨fuel, hf⟩ := h0
    rcases open_ints Try.underlying31 Try.underlying5 (by kernel_rfl) hf with ⟨hcs, _⟩ | ⟨x, l, c, zs, hcs, _, hl, hm, hz, _, hcell, hwz⟩
    · simp [Value.cells] at hcs
      obtain ⟨rfl, rfl, rfl⟩ := hcs
      exact ⟨[], .inl ⟨rfl, rfl, rfl, rfl⟩⟩
    · simp [Value.cells] at hcs
      obtain ⟨rfl, rfl, rfl⟩ := hcs
      exact ⟨zs, .inr ⟨_, rfl, hl, hm, by simpa using hz, hcell, hwz⟩⟩
  clear hA0 hval0
  refine (walk a0 len0 cap0 z0 W w0).mono fun e W' ⟨he, bel⟩ => ?_
  subst he
  exact ⟨_, rfl, _, _, _, [], _, [], hW', trodAll_mk1 (shut_bool Try.underlying4 _), (trodAll_cons_mk (Below.trod laidOut (by kernel_rfl) (of_decide_eq_true (by kernel_rfl)) k0 bel lt0) trodAll_mk0), rfl, bel.frame _, fun h => by cases h⟩

theorem over : Rows.fnPalindromesRow.holds Try.pinned (OpenSpec.ofChange Rows.fnPalindromesSpec) :=
  OpenClaim.holds_of_wide 7 Try.f7 rfl rfl rfl rfl rfl rfl rfl ⟨rfl, rfl, rfl, rfl, rfl⟩ rfl rfl rfl rfl rfl (by kernel_rfl) Try.func7 (by kernel_rfl)
    (of_decide_eq_true (by kernel_rfl)) (by unfold Func.isWrapper; first | (rw [if_pos (by decide +kernel)]; kernel_rfl) | (rw [if_neg (by decide +kernel)]; exact ⟨rfl, rfl⟩))
    (fun os started H enc _ => lifted os started H enc)

theorem proved : Rows.FnPalindromesSaid := over
#print axioms proved
