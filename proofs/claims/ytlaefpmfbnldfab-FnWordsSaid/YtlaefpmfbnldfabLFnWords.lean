/- For every bytes: what the program says of words, their products, reversals, turns, powers and renamings hangs together. No condition. -/
import Derived.Test.YtlaefpmfbnldfabW1
import Derived.Test.YtlaefpmfbnldfabFnWords
import Derived.Test.YtlaefpmfbnldfabDrawTwo
import Derived.Test.YtlaefpmfbnldfabDrawWol
import Derived.Test.YtlaefpmfbnldfabDrawNamed
import Derived.Test.YtlaefpmfbnldfabDrawRoot
import Derived.Test.YtlaefpmfbnldfabLike
import Derived.Test.YtlaefpmfbnldfabTurn
import Derived.Test.YtlaefpmfbnldfabWordOfS
import Derived.Test.YtlaefpmfbnldfabCount
import Derived.Test.YtlaefpmfbnldfabLetters
import Derived.Deep.Cut
import Derived.Test.YtlaefpmfbnldfabRows
import Derived.WalkKit
import Derived.ProofKit
import Derived.OpenShut
import Derived.ShutString
import Derived.ChangeOld
import Derived.Below
namespace Go.Proofs.Ytlaefpmfbnldfab.fnWords
open Go.ChangeShapes Go.WideShapes Go.ChangeAt Go.RowKit
open Go.ChangeMaps (open_string shut_string)
set_option linter.unusedVariables false
set_option linter.unusedSimpArgs false

set_option maxRecDepth 100000 in
set_option maxHeartbeats 8000000 in
theorem walk (a0 : Option Addr) (len0 cap0 : Nat) (z0 : List Int) (w : World) (w0 : IsRow .u8 w a0 len0 cap0 z0) :
    Calls Try.prog 7 #[.slice a0 len0 cap0] w fun e w' => e = .returned (.bool true) ∧ Below w.heap.size w w' := by
  by_cases hbig : 4096 < len0
  · have C0 := Lib.hid (big_yes a0 len0 cap0 w hbig)
    clear w0
    go_enter Try.func7, Try.ntmps7
    go_wp2_with fail
    refine C0.out.mono ?_
    rintro e w1 ⟨rfl, b1⟩
    go_wp2_with fail
    go_ret
    exact ⟨rfl, b1⟩
  have hlen : len0 ≤ 1048576 := by omega
  have C0 := Lib.hid (big_no a0 len0 cap0 w (by omega))
  have D1 := Lib.hid (fun (w' : World) (b : Below w.heap.size w w') => DrawProductOf_any a0 len0 cap0 z0 w' (w0.below b) hlen)
  have D2 := Lib.hid (fun (w' : World) (b : Below w.heap.size w w') => DrawTurnWord_any a0 len0 cap0 z0 w' (w0.below b) hlen)
  have D3 := Lib.hid (fun (w' : World) (b : Below w.heap.size w w') => DrawPowerOf_any a0 len0 cap0 z0 w' (w0.below b) hlen)
  have D4 := Lib.hid (fun (w' : World) (b : Below w.heap.size w w') => DrawRenameLetters_any a0 len0 cap0 z0 w' (w0.below b) hlen)
  have D5 := Lib.hid (fun (w' : World) (b : Below w.heap.size w w') => DrawCompareWords_any a0 len0 cap0 z0 w' (w0.below b) hlen)
  have D6 := Lib.hid (fun (w' : World) (b : Below w.heap.size w w') => DrawWordOfLetters_any a0 len0 cap0 z0 w' (w0.below b) hlen)
  have D7 := Lib.hid (fun (w' : World) (b : Below w.heap.size w w') => DrawNamedWord_any a0 len0 cap0 z0 w' (w0.below b) hlen)
  clear w0 hbig hlen
  go_enter Try.func7, Try.ntmps7
  go_wp2_with fail
  refine C0.out.mono ?_
  rintro e w1 ⟨rfl, B⟩
  clear C0
  go_wp2_with fail
  refine (D1.out _ B).mono ?_
  rintro e w2 ⟨x, y, rfl, hx, hy, b2⟩
  have B := B.then b2
  clear b2 D1
  have sx := SomeT.maxLen hx
  have sy := SomeT.maxLen hy
  have hq := words_good (x := x) (y := y)
  have ci := fun w => impl_ProductOf x y w sx sy
  have cs := fun w => spec_ProductOf x y w sx sy
  generalize (productR x y).1 = pr at hq ci cs
  generalize (productR x y).2 = c at hq ci cs
  obtain ⟨bw, iw, sw⟩ := isWord_both x sx
  have HQ := Lib.hid hq
  have CI := Lib.hid ci
  have CS := Lib.hid cs
  have IW := Lib.hid iw
  have SW := Lib.hid sw
  clear ci cs iw sw hq
  go_wp2_with fail
  refine (CI.out _).mono ?_
  rintro e w3 ⟨rfl, b3⟩
  have B := B.then b3
  clear b3
  go_wp2_with fail
  refine (CS.out _).mono ?_
  rintro e w4 ⟨rfl, b4⟩
  have B := B.then b4
  clear b4
  go_wp2_with fail
  refine (IW.out _).mono ?_
  rintro e w5 ⟨rfl, b5⟩
  have B := B.then b5
  clear b5
  go_wp2_with fail
  refine (SW.out _).mono ?_
  rintro e w6 ⟨rfl, b6⟩
  have B := B.then b6
  clear b6
  go_upto_if 109 with fail
  go_cut [9, 10, 11, 12, 13, 14, 15, 16, 17, 18, 19, 20, 21, 22, 23, 24, 25, 26, 27, 28] from 110 (fun s9 s10 s11 s12 s13 s14 s15 s16 s17 s18 s19 s20 s21 s22 s23 s24 s25 s26 s27 s28 wc => Below w.heap.size w wc)
  case first => as_aux_lemma =>
    by_cases hc : c = 0
    · have A := HQ.out hc
      have hs := A.size
      have spr : pr.size ≤ maxLen := SomeT.maxLen (by omega)
      have c3 : ∀ w, Calls Try.prog 54 #[.string pr] w fun e w' => e = .returned (.tuple #[.string (rev pr), .int .i64 0]) ∧ Below w.heap.size w w' := fun w => by
        have := impl_ReverseOf pr w spr
        rw [A.a] at this
        exact this
      have c4 : ∀ w, Calls Try.prog 54 #[.string x] w fun e w' => e = .returned (.tuple #[.string (rev x), .int .i64 0]) ∧ Below w.heap.size w w' := fun w => by
        have := impl_ReverseOf x w sx
        rw [A.b] at this
        exact this
      have c5 : ∀ w, Calls Try.prog 54 #[.string y] w fun e w' => e = .returned (.tuple #[.string (rev y), .int .i64 0]) ∧ Below w.heap.size w w' := fun w => by
        have := impl_ReverseOf y w sy
        rw [A.c] at this
        exact this
      have c6 : ∀ w, Calls Try.prog 50 #[.string (rev y), .string (rev x)] w fun e w' => e = .returned (.tuple #[.string (rev pr), .int .i64 0]) ∧ Below w.heap.size w w' := fun w => by
        have := impl_ProductOf (rev y) (rev x) w (by rw [rev_size]; exact sy) (by rw [rev_size]; exact sx)
        rw [A.d] at this
        exact this
      have c7 : ∀ w, Calls Try.prog 54 #[.string (rev pr)] w fun e w' => e = .returned (.tuple #[.string pr, .int .i64 0]) ∧ Below w.heap.size w w' := fun w => by
        have := impl_ReverseOf (rev pr) w (by rw [rev_size]; exact spr)
        rw [A.back] at this
        exact this
      have c8 : ∀ w, Calls Try.prog 55 #[.string pr] w (RetI (numsR pr) 0 w) := fun w => by
        have := impl_LettersOf pr w spr
        rw [A.letters] at this
        exact this
      have c9 : ∀ B v w, OwnI w B v (numsR pr) → Calls Try.prog 56 #[v] w fun e w' => e = .returned (.tuple #[.string pr, .int .i64 0]) ∧ Below w.heap.size w w' := fun B v w h => by
        have := impl_WordOfLetters B v (numsR pr) w h (by rw [numsR_len]; omega)
        rw [A.made] at this
        exact this
      have c10 : ∀ w, Calls Try.prog 57 #[.string pr] w (RetI (cntK pr pr.size) 0 w) := fun w => by
        have := impl_CountLetters pr w spr
        rw [A.counts] at this
        exact this
      have c11 : ∀ w, Calls Try.prog 58 #[.string pr, .string x] w fun e w' => e = .returned (.tuple #[.string x, .int .i64 0]) ∧ Below w.heap.size w w' := fun w => by
        have := impl_CommonBeginning pr x w spr sx
        rw [A.begins] at this
        exact this
      have c12 : ∀ w, Calls Try.prog 59 #[.string pr, .string y] w fun e w' => e = .returned (.tuple #[.string y, .int .i64 0]) ∧ Below w.heap.size w w' := fun w => by
        have := impl_CommonEnd pr y w spr sy
        rw [A.ends] at this
        exact this
      have c13 : ∀ B v w, OwnI w B v (cntK pr pr.size) → Calls Try.prog 60 #[v] w fun e w' => e = .returned (.int .i64 (pr.size : Int)) ∧ Below w.heap.size w w' := fun B v w h => by
        have := sum_any B v (cntK pr pr.size) w h A.small (by rw [cntK_len]; omega) (by rw [cntK_len]; omega)
        rw [A.sum] at this
        exact this
      generalize rev pr = rp at c3 c6 c7
      generalize rev x = rx at c4 c6
      generalize rev y = ry at c5 c6
      generalize numsR pr = NL at c8 c9
      generalize cntK pr pr.size = CL at c10 c13
      have K3 := Lib.hid c3
      have K4 := Lib.hid c4
      have K5 := Lib.hid c5
      have K6 := Lib.hid c6
      have K7 := Lib.hid c7
      have K8 := Lib.hid c8
      have K9 := Lib.hid c9
      have K10 := Lib.hid c10
      have K11 := Lib.hid c11
      have K12 := Lib.hid c12
      have K13 := Lib.hid c13
      clear A c3 c4 c5 c6 c7 c8 c9 c10 c11 c12 c13
      subst hc
      go_wp2_with fail
      refine (K3.out _).mono ?_
      rintro e w7 ⟨rfl, b7⟩
      have B := B.then b7
      clear b7
      go_wp2_with fail
      refine (K4.out _).mono ?_
      rintro e w8 ⟨rfl, b8⟩
      have B := B.then b8
      clear b8
      go_wp2_with fail
      refine (K5.out _).mono ?_
      rintro e w9 ⟨rfl, b9⟩
      have B := B.then b9
      clear b9
      go_wp2_with fail
      refine (K6.out _).mono ?_
      rintro e w10 ⟨rfl, b10⟩
      have B := B.then b10
      clear b10
      go_wp2_with fail
      refine (K7.out _).mono ?_
      rintro e w11 ⟨rfl, b11⟩
      have B := B.then b11
      clear b11
      go_wp2_with fail
      refine (K8.out _).mono ?_
      rintro e w12 ⟨v8, rfl, o8, b12⟩
      have B := B.then b12
      clear b12
      go_wp2_with fail
      refine (K9.out _ _ _ o8).mono ?_
      rintro e w13 ⟨rfl, b13⟩
      have B := B.then b13
      clear b13
      as_aux_lemma =>
        go_wp2_with fail
        refine (K10.out _).mono ?_
        rintro e w14 ⟨v10, rfl, o10, b14⟩
        have B := B.then b14
        clear b14
        go_wp2_with fail
        refine (K11.out _).mono ?_
        rintro e w15 ⟨rfl, b15⟩
        have o10 := o10.below b15
        have B := B.then b15
        clear b15
        go_wp2_with fail
        refine (K12.out _).mono ?_
        rintro e w16 ⟨rfl, b16⟩
        have o10 := o10.below b16
        have B := B.then b16
        clear b16
        go_wp2_with fail
        refine (K13.out _ _ _ o10).mono ?_
        rintro e w17 ⟨rfl, b17⟩
        have B := B.then b17
        clear b17
        go_wp2_with fail
        go_meet
        case rel => exact B
    · go_wp2_with fail
      go_meet
      case rel => exact B
  case rest => as_aux_lemma =>
    have B := hcut
    clear hcut HQ
    go_wp2_with fail
    refine (D2.out _ B).mono ?_
    rintro e w18 ⟨xx, k, rfl, hxx, wk, b18⟩
    have B := B.then b18
    clear b18 D2
    have sxx := SomeT.maxLen hxx
    have hb := turn_back (x := xx) (k := k)
    have ci := fun w => impl_TurnWord xx k w sxx wk
    have cs := fun w => spec_TurnWord xx k w sxx wk
    generalize (turnR xx k).1 = t at hb ci cs
    generalize (turnR xx k).2 = ct at hb ci cs
    have HB := Lib.hid hb
    have CI := Lib.hid ci
    have CS := Lib.hid cs
    clear ci cs hb
    go_wp2_with fail
    refine (CI.out _).mono ?_
    rintro e w19 ⟨rfl, b19⟩
    have B := B.then b19
    clear b19
    go_wp2_with fail
    refine (CS.out _).mono ?_
    rintro e w20 ⟨rfl, b20⟩
    have B := B.then b20
    clear b20
    go_upto_if 259 with fail
    go_cut [35, 36] from 260 (fun s35 s36 wc => Below w.heap.size w wc)
    case first =>
      by_cases hct : ct = 0
      · obtain ⟨h1, h2, h3, h4⟩ := HB.out hct
        have ck : ∀ w, Calls Try.prog 27 #[.string t, .int .i64 ((xx.size : Int) - k)] w fun e w' => e = .returned (.tuple #[.string xx, .int .i64 0]) ∧ Below w.heap.size w w' := fun w => by
          have := impl_TurnWord t ((xx.size : Int) - k) w (SomeT.maxLen (by omega)) (wf_near (by omega) (by omega))
          rw [h1] at this
          exact this
        have CK := Lib.hid ck
        clear ck h1
        subst hct
        go_wp2_with fail
        refine (CK.out _).mono ?_
        rintro e w21 ⟨rfl, b21⟩
        have B := B.then b21
        clear b21
        go_wp2_with fail
        go_meet
        case rel => exact B
      · go_wp2_with fail
        go_meet
        case rel => exact B
    case rest => as_aux_lemma =>
      have B := hcut
      clear hcut HB
      go_wp2_with fail
      refine (D3.out _ B).mono ?_
      rintro e w22 ⟨yy, n, rfl, hyy, wn, b22⟩
      have B := B.then b22
      clear b22 D3
      have syy := SomeT.maxLen hyy
      have ci := fun w => impl_PowerOf yy n w syy wn
      have cs := fun w => spec_PowerOf yy n w syy wn
      generalize (powR yy n).1 = r3 at ci cs
      generalize (powR yy n).2 = q3 at ci cs
      have CI3 := Lib.hid ci
      have CS3 := Lib.hid cs
      clear ci cs
      go_wp2_with fail
      refine (CI3.out _).mono ?_
      rintro e w23 ⟨rfl, b23⟩
      have B := B.then b23
      clear b23
      go_wp2_with fail
      refine (CS3.out _).mono ?_
      rintro e w24 ⟨rfl, b24⟩
      have B := B.then b24
      clear b24
      clear CI3 CS3
      go_wp2_with fail
      refine (D4.out _ B).mono ?_
      rintro e w25 ⟨zz, vp, LP, rfl, hzz, op, hlp, b25⟩
      have B := B.then b25
      clear b25 D4
      have szz := SomeT.maxLen hzz
      have hlp2 : LP.length ≤ 1048576 := by omega
      have ci := fun B v w h => impl_RenameLetters zz B v LP w szz h hlp2
      have cs := fun B v w h => spec_RenameLetters zz B v LP w szz h hlp2
      generalize (renR zz LP).1 = r4 at ci cs
      generalize (renR zz LP).2 = q4 at ci cs
      have CI4 := Lib.hid ci
      have CS4 := Lib.hid cs
      clear ci cs
      go_wp2_with fail
      refine (CI4.out _ _ _ op).mono ?_
      rintro e w26 ⟨rfl, b26⟩
      have op := op.below b26
      have B := B.then b26
      clear b26
      go_wp2_with fail
      refine (CS4.out _ _ _ op).mono ?_
      rintro e w27 ⟨rfl, b27⟩
      have B := B.then b27
      clear b27
      clear CI4 CS4 op
      as_aux_lemma =>
        go_wp2_with fail
        refine (D5.out _ B).mono ?_
        rintro e w28 ⟨a, b, rfl, ha, hb, b28⟩
        have B := B.then b28
        clear b28 D5
        have sa := SomeT.maxLen ha
        have sb := SomeT.maxLen hb
        have ci := fun w => impl_CompareWords a b w sa sb
        have cs := fun w => spec_CompareWords a b w sa sb
        generalize (cmpR a b).1 = r5 at ci cs
        generalize (cmpR a b).2 = q5 at ci cs
        have CI5 := Lib.hid ci
        have CS5 := Lib.hid cs
        clear ci cs
        go_wp2_with fail
        refine (CI5.out _).mono ?_
        rintro e w29 ⟨rfl, b29⟩
        have B := B.then b29
        clear b29
        go_wp2_with fail
        refine (CS5.out _).mono ?_
        rintro e w30 ⟨rfl, b30⟩
        have B := B.then b30
        clear b30
        clear CI5 CS5
        have ci := fun w => impl_CommonBeginning a b w sa sb
        have cs := fun w => spec_CommonBeginning a b w sa sb
        generalize (beginR a b).1 = r6 at ci cs
        generalize (beginR a b).2 = q6 at ci cs
        have CI6 := Lib.hid ci
        have CS6 := Lib.hid cs
        clear ci cs
        go_wp2_with fail
        refine (CI6.out _).mono ?_
        rintro e w31 ⟨rfl, b31⟩
        have B := B.then b31
        clear b31
        go_wp2_with fail
        refine (CS6.out _).mono ?_
        rintro e w32 ⟨rfl, b32⟩
        have B := B.then b32
        clear b32
        clear CI6 CS6
        have ci := fun w => impl_CommonEnd a b w sa sb
        have cs := fun w => spec_CommonEnd a b w sa sb
        generalize (endR a b).1 = r7 at ci cs
        generalize (endR a b).2 = q7 at ci cs
        have CI7 := Lib.hid ci
        have CS7 := Lib.hid cs
        clear ci cs
        go_wp2_with fail
        refine (CI7.out _).mono ?_
        rintro e w33 ⟨rfl, b33⟩
        have B := B.then b33
        clear b33
        go_wp2_with fail
        refine (CS7.out _).mono ?_
        rintro e w34 ⟨rfl, b34⟩
        have B := B.then b34
        clear b34
        clear CI7 CS7
        as_aux_lemma =>
          go_wp2_with fail
          refine (D6.out _ B).mono ?_
          rintro e w35 ⟨vl, LL, rfl, ol, hll, b35⟩
          have B := B.then b35
          clear b35 D6
          have hll2 : LL.length ≤ 1048576 := by omega
          have ci := fun B v w h => impl_WordOfLetters B v LL w h hll2
          have cs := fun B v w h => spec_WordOfLetters B v LL w h hll2
          generalize (wolR LL).1 = r8 at ci cs
          generalize (wolR LL).2 = q8 at ci cs
          have CI8 := Lib.hid ci
          have CS8 := Lib.hid cs
          clear ci cs
          go_wp2_with fail
          refine (CI8.out _ _ _ ol).mono ?_
          rintro e w36 ⟨rfl, b36⟩
          have ol := ol.below b36
          have B := B.then b36
          clear b36
          go_wp2_with fail
          refine (CS8.out _ _ _ ol).mono ?_
          rintro e w37 ⟨rfl, b37⟩
          have B := B.then b37
          clear b37
          clear CI8 CS8 ol
          go_wp2_with fail
          refine (D7.out _ B).mono ?_
          rintro e w38 ⟨nm, m, rfl, hnm, wm, b38⟩
          have B := B.then b38
          clear b38 D7
          have snm := SomeT.maxLen hnm
          have ci := fun w => impl_NamedWord nm m w snm wm
          have cs := fun w => spec_NamedWord nm m w snm wm
          generalize (namedR nm m).1 = r9 at ci cs
          generalize (namedR nm m).2 = q9 at ci cs
          have CI9 := Lib.hid ci
          have CS9 := Lib.hid cs
          clear ci cs
          go_wp2_with fail
          refine (CI9.out _).mono ?_
          rintro e w39 ⟨rfl, b39⟩
          have B := B.then b39
          clear b39
          go_wp2_with fail
          refine (CS9.out _).mono ?_
          rintro e w40 ⟨rfl, b40⟩
          have B := B.then b40
          clear b40
          clear CI9 CS9
          go_wp2_with fail
          go_ret
          exact ⟨rfl, B⟩

theorem own : ownKnob Try.prog.godebug = none := by kernel_rfl
theorem laidOut : laidOutB Try.prog = true := by kernel_rfl

set_option maxRecDepth 100000 in
theorem lifted (os : Os) (started : os.Started) (H : Type) (enc : TypeId × Value → H) :
    ReturnsInHanded {} Try.checked os 7 .any (Rows.fnWordsSpec.pre6 enc Try.prog Try.f7 Rows.fnWordsRow.domain false) (Rows.fnWordsSpec.post enc Try.prog Try.f7 false true false false) := by
  refine returnsInHanded_of_change (C := Try.checked) own started (by kernel_rfl) Try.func7
    (ChangeSpec.witness6 (enc := enc) (C := Try.checked) false ⟨#[], #[.slice none 0 0], []⟩ 8 (by kernel_rfl) (by kernel_rfl) (by kernel_rfl) (by kernel_rfl)) ?_
  intro W base args ds gs before hval0 hW hcnd _
  have hval : ∀ (j : Nat) t v, Try.f7.params[j]? = some t → args[j]? = some v → Value.okWide Try.prog W .any base t v := hval0
  have hW' := hW
  obtain ⟨p, q, hA0, hV, rfl, hfz, hnd⟩ := hW
  have hA : DataW.TrodAll enc Try.prog W 0 (fun _ => true) true Try.f7.params.toList args.toList ds p := hA0
  rw [Try.params7] at hA hval
  obtain ⟨v0, vs0, d0, ds0, p0, q0, hargs, rfl, rfl, h0, r0⟩ := trodAll_cons hA
  obtain ⟨rfl, rfl, rfl⟩ := trodAll_nil r0
  obtain rfl : args = #[v0] := by cases args; simp_all
  obtain ⟨rfl, rfl⟩ := trodVars_none hV
  obtain ⟨a0, len0, cap0, rfl⟩ := okWide_slice Try.underlying25 (hval 0 25 v0 rfl rfl)
  have k0 := h0
  have lt0 : ∀ x ∈ p0, x.block < W.heap.size := by obtain ⟨m, hm⟩ := k0; exact DataW.trod_lt m _ _ _ hm
  obtain ⟨z0, w0⟩ : ∃ zs, IsRow .u8 W a0 len0 cap0 zs := by
    obtain ⟨fuel, hf⟩ := h0
    rcases open_ints Try.underlying25 Try.underlying5 (by kernel_rfl) hf with ⟨hcs, _⟩ | ⟨x, l, c, zs, hcs, _, hl, hm, hz, _, hcell, hwz⟩
    · simp [Value.cells] at hcs
      obtain ⟨rfl, rfl, rfl⟩ := hcs
      exact ⟨[], .inl ⟨rfl, rfl, rfl, rfl⟩⟩
    · simp [Value.cells] at hcs
      obtain ⟨rfl, rfl, rfl⟩ := hcs
      exact ⟨zs, .inr ⟨_, rfl, hl, hm, by simpa using hz, hcell, hwz⟩⟩
  clear hA0 hval0
  refine (walk a0 len0 cap0 z0 W w0).mono fun e W' ⟨he, bel⟩ => ?_
  subst he
  exact ⟨_, rfl, _, _, _, [], _, [], hW', trodAll_mk1 (shut_bool Try.underlying4 _), (trodAll_cons_mk (Below.trod laidOut (by kernel_rfl) (of_decide_eq_true (by kernel_rfl)) k0 bel lt0) trodAll_mk0), rfl, bel.frame _, fun h => by cases h⟩

theorem over : Rows.fnWordsRow.holds Try.pinned (OpenSpec.ofChange Rows.fnWordsSpec) :=
  OpenClaim.holds_of_wide 7 Try.f7 rfl rfl rfl rfl rfl rfl rfl ⟨rfl, rfl, rfl, rfl, rfl⟩ rfl rfl rfl rfl rfl (by kernel_rfl) Try.func7 (by kernel_rfl)
    (of_decide_eq_true (by kernel_rfl)) (by unfold Func.isWrapper; first | (rw [if_pos (by decide +kernel)]; kernel_rfl) | (rw [if_neg (by decide +kernel)]; exact ⟨rfl, rfl⟩))
    (fun os started H enc _ => lifted os started H enc)

theorem proved : Rows.FnWordsSaid := over
#print axioms proved

end Go.Proofs.Ytlaefpmfbnldfab.fnWords
