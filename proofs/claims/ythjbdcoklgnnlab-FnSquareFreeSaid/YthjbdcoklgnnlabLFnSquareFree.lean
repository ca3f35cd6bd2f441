/- For every bytes: what the program says of square free words, their exponents and their counts hangs together. No condition. -/
import Derived.Test.YthjbdcoklgnnlabW5
import Derived.Test.YthjbdcoklgnnlabNext
import Derived.Test.YthjbdcoklgnnlabSq
import Derived.Test.YthjbdcoklgnnlabSfCount
import Derived.Test.YthjbdcoklgnnlabOverlaps
import Derived.Deep.Cut
import Derived.Deep.CutRange
import Derived.Test.YthjbdcoklgnnlabRows
import Derived.WalkKit
import Derived.ProofKit
import Derived.OpenShut
import Derived.ShutString
import Derived.ChangeOld
import Derived.Below
namespace Go.Proofs.Ythjbdcoklgnnlab.fnSquareFree
open Go.ChangeShapes Go.WideShapes Go.ChangeAt Go.RowKit
open Go.ChangeMaps (open_string shut_string)
set_option linter.unusedVariables false
set_option linter.unusedSimpArgs false

set_option maxRecDepth 100000 in
set_option maxHeartbeats 8000000 in
theorem walk (a0 : Option Addr) (len0 cap0 : Nat) (z0 : List Int) (w : World) (w0 : IsRow .u8 w a0 len0 cap0 z0) :
    Calls Try.prog 5 #[.slice a0 len0 cap0] w fun e w' => e = .returned (.bool true) ∧ Below w.heap.size w w' := by
  by_cases hbig : 4096 < len0
  · have C0 := Lib.hid (big_yes a0 len0 cap0 w hbig)
    clear w0
    go_enter Try.func5, Try.ntmps5
    go_wp2_with fail
    refine C0.out.mono ?_
    rintro e w1 ⟨rfl, b1⟩
    go_wp2_with fail
    go_ret
    exact ⟨rfl, b1⟩
  have hlen : len0 ≤ 1048576 := by omega
  have C0 := Lib.hid (big_no a0 len0 cap0 w (by omega))
  have D1 := Lib.hid (fun (w' : World) (b : Below w.heap.size w w') => DrawLettersNext_any a0 len0 cap0 z0 w' (w0.below b) hlen)
  have D2 := Lib.hid (fun (w' : World) (b : Below w.heap.size w w') => DrawGreatestExponent_any a0 len0 cap0 z0 w' (w0.below b) hlen)
  have D3 := Lib.hid (fun (w' : World) (b : Below w.heap.size w w') => DrawFirstSquareFree_any a0 len0 cap0 z0 w' (w0.below b) hlen)
  have D4 := Lib.hid (fun (w' : World) (b : Below w.heap.size w w') => DrawCountSquareFree_any a0 len0 cap0 z0 w' (w0.below b) hlen)
  have D5 := Lib.hid (fun (w' : World) (b : Below w.heap.size w w') => DrawFirstSquare_any a0 len0 cap0 z0 w' (w0.below b) hlen)
  clear w0 hbig hlen
  go_enter Try.func5, Try.ntmps5
  go_wp2_with fail
  refine C0.out.mono ?_
  rintro e w1 ⟨rfl, B⟩
  clear C0
  go_wp2_with fail
  refine (D1.out _ B).mono ?_
  rintro e w2 ⟨x, k, rfl, hx, wk, b2⟩
  have B := B.then b2
  clear b2 D1
  have sx : x.size ≤ maxLen := by unfold Go.maxLen; omega
  have g1 := sf_next x k
  have ci := fun w => impl_LettersNext x k w sx wk
  have cs := fun w => spec_LettersNext x k w sx wk
  generalize (nextR x k).1 = L at g1 ci cs
  generalize (nextR x k).2 = c1 at g1 ci cs
  have G1 := Lib.hid g1
  have CI := Lib.hid ci
  have CS := Lib.hid cs
  clear ci cs g1
  go_wp2_with fail
  refine (CI.out _).mono ?_
  rintro e w3 ⟨v1, rfl, o1, b3⟩
  have B := B.then b3
  clear b3
  go_wp2_with fail
  refine (CS.out _).mono ?_
  rintro e w4 ⟨v2, rfl, o2, b4⟩
  have o1 := o1.below b4
  have B := B.then b4
  clear b4
  go_wp2_with fail
  refine (likeInts_yes _ _ _ _ L _ o1 o2).mono ?_
  rintro e w5 ⟨rfl, b5⟩
  have o1 := o1.below b5
  have B := B.then b5
  clear b5 o2 CI CS
  go_upto_if 87 with fail
  go_cut [9, 10, 11, 12, 13, 14, 15] from 88 (fun s9 s10 s11 s12 s13 s14 s15 wc => Below w.heap.size w wc)
  case first => as_aux_lemma =>
    by_cases hc : c1 = 0
    · obtain ⟨x60, hz⟩ := G1.out hc
      subst hc
      have HZ := Lib.hid hz
      obtain ⟨ad, cp, rfl, form⟩ := o1.look
      have HF := Lib.hid form
      have hml : L.length ≤ maxLen := by
        by_cases hL : 0 < L.length
        · obtain ⟨_, _, _, _, _, _, hm, _⟩ := o1.row hL
          exact hm
        · unfold Go.maxLen; omega
      unfold Go.maxLen at hml
      clear o1 form hz G1
      go_wp2
      go_loopg [9] L.length (fun gg i wr => ∃ k : Nat, k + gg = L.length ∧ i = .int .i64 (k : Int) ∧ Below w5.heap.size w5 wr ∧ Below w.heap.size w wr)
      case atStart => exact ⟨0, by omega, rfl, Below.refl _ _, B⟩
      case round =>
        obtain ⟨j, hj, rfl, hB, hBw⟩ := hrel
        clear B
        by_cases hp : j < L.length
        · obtain ⟨gq, rfl⟩ : ∃ q, gk = q + 1 := ⟨gk - 1, by omega⟩
          have HJ := Lib.hid hj
          clear hj
          obtain ⟨g, rfl, hg, hkc, hcell⟩ := HF.out j hp
          have k1 : wr.cell? ⟨g, j, none⟩ = some (.int .i64 (L[j]'hp)) := by rw [(bcell hB).1 g j hg]; exact hcell
          obtain ⟨y0, y5, y1, y2, y3, y6⟩ := HZ.out _ (List.getElem_mem hp)
          clear hcell
          generalize L[j]'hp = z at k1 y0 y5 y1 y2 y3
          have hol : OwnI (wr.alloc (.cells #[.int .i64 z] 2)) wr.heap.size (.slice (some ⟨wr.heap.size, 0, none⟩) 1 1) [z] :=
            World.ownsRow_lit wr #[.int .i64 z] 1 (Nat.le_refl _) (by decide) (by simp)
          have sl : (wordB [z]).size ≤ maxLen := by show 1 ≤ _; unfold Go.maxLen; omega
          have sm : (x ++ wordB [z]).size ≤ maxLen := by rw [ByteArray.size_append]; show x.size + 1 ≤ _; unfold Go.maxLen; omega
          have k2 := impl_WordOfLetters wr.heap.size _ [z] _ hol (by simp)
          rw [y1] at k2
          have k3 := fun w => impl_ProductOf x (wordB [z]) w sx sl
          rw [y2] at k3
          have k4 := fun w => impl_IsSquareFree (x ++ wordB [z]) w sm
          rw [y3] at k4
          generalize x ++ wordB [z] = m at *
          generalize wordB [z] = lt at *
          have K2 := Lib.hid k2
          have K3 := Lib.hid k3
          have K4 := Lib.hid k4
          clear k2 k3 k4 hol y1 y2 y3
          go_wp2_with fail
          refine K2.out.mono ?_
          rintro e wa ⟨rfl, ba⟩
          have ba' := (Below.new wr (.cells #[.int .i64 z] 2)).then ba
          go_wp2_with fail
          refine (K3.out _).mono ?_
          rintro e wb ⟨rfl, bb⟩
          have bb' := ba'.then bb
          go_wp2_with fail
          refine (K4.out _).mono ?_
          rintro e wd ⟨rfl, bd⟩
          have bd' := bb'.then bd
          go_wp2_with fail
          go_roundg gq
          case measure => omega
          case rel => exact ⟨j + 1, by have := HJ.out; omega, by go_num, hB.then bd', hBw.then bd'⟩
        · go_wp2_with fail
          go_meet
          case rel => exact hBw
    · go_wp2_with fail
      go_meet
      case rel => exact B
  case rest => as_aux_lemma =>
    have B := hcut
    clear hcut G1 o1
    go_wp2_with fail
    refine (D2.out _ B).mono ?_
    rintro e w6 ⟨y, rfl, hy, b6⟩
    have B := B.then b6
    clear b6 D2
    have sy : y.size ≤ maxLen := by unfold Go.maxLen; omega
    have g2 := sf_exp y
    have ci := fun w => impl_GreatestExponent y w sy
    have cs := fun w => spec_GreatestExponent y w sy
    have ck := fun w => impl_IsSquareFree y w sy
    have cl := fun w => impl_IsOverlapFree y w sy
    generalize (geR y).1 = p at g2 ci cs
    generalize (geR y).2.1 = q at g2 ci cs
    generalize (geR y).2.2 = c2 at g2 ci cs
    have G2 := Lib.hid g2
    have CI := Lib.hid ci
    have CS := Lib.hid cs
    have CK := Lib.hid ck
    have CL := Lib.hid cl
    clear ci cs ck cl g2
    go_wp2_with fail
    refine (CI.out _).mono ?_
    rintro e w7 ⟨rfl, b7⟩
    have B := B.then b7
    clear b7
    go_wp2_with fail
    refine (CS.out _).mono ?_
    rintro e w8 ⟨rfl, b8⟩
    have B := B.then b8
    clear b8 CI CS
    go_upto_if 156 with fail
    go_cut [23, 24, 25, 26] from 157 (fun s23 s24 s25 s26 wc => Below w.heap.size w wc)
    case first => as_aux_lemma =>
      by_cases hc : c2 = 0
      · obtain ⟨e1, e2, p0, p6, q0, q6⟩ := G2.out hc
        subst hc
        have ck := CK.out
        have cl := CL.out
        rw [e1] at ck
        rw [e2] at cl
        clear CK CL G2 e1 e2
        have wq : IntKind.i64.wrap (2 * q) = 2 * q := IntWalk.i64_in _ (by omega)
        rcases (show p < 2 * q ∨ p = 2 * q ∨ 2 * q < p by omega) with h9 | h9 | h9
        · have d1 : decide (p < 2 * q) = true := decide_eq_true h9
          have d2 : decide (p ≤ 2 * q) = true := decide_eq_true (by omega)
          have d3 : p ≤ 2 * q := by omega
          rw [d1] at ck
          rw [d2] at cl
          have CK := Lib.hid ck
          have CL := Lib.hid cl
          clear ck cl d1 d2
          go_wp2_with fail
          refine (CK.out _).mono ?_
          rintro e wa ⟨rfl, ba⟩
          go_wp2_with fail
          refine (CL.out _).mono ?_
          rintro e wb ⟨rfl, bb⟩
          have B := (B.then ba).then bb
          go_wp2_with fail
          go_meet
          case rel => exact B
        · have d1 : decide (p < 2 * q) = false := decide_eq_false (by omega)
          have d2 : decide (p ≤ 2 * q) = true := decide_eq_true (by omega)
          have d3 : p ≤ 2 * q := by omega
          have d4 : ¬ p < 2 * q := by omega
          rw [d1] at ck
          rw [d2] at cl
          have CK := Lib.hid ck
          have CL := Lib.hid cl
          clear ck cl d1 d2 h9
          go_wp2_with fail
          refine (CK.out _).mono ?_
          rintro e wa ⟨rfl, ba⟩
          go_wp2_with fail
          refine (CL.out _).mono ?_
          rintro e wb ⟨rfl, bb⟩
          have B := (B.then ba).then bb
          go_wp2_with fail
          go_meet
          case rel => exact B
        · have d1 : decide (p < 2 * q) = false := decide_eq_false (by omega)
          have d2 : decide (p ≤ 2 * q) = false := decide_eq_false (by omega)
          have d3 : ¬ p ≤ 2 * q := by omega
          have d4 : ¬ p < 2 * q := by omega
          rw [d1] at ck
          rw [d2] at cl
          have CK := Lib.hid ck
          have CL := Lib.hid cl
          clear ck cl d1 d2
          go_wp2_with fail
          refine (CK.out _).mono ?_
          rintro e wa ⟨rfl, ba⟩
          go_wp2_with fail
          refine (CL.out _).mono ?_
          rintro e wb ⟨rfl, bb⟩
          have B := (B.then ba).then bb
          go_wp2_with fail
          go_meet
          case rel => exact B
      · go_wp2_with fail
        go_meet
        case rel => exact B
    case rest => as_aux_lemma =>
      have B := hcut
      clear hcut G2 CK CL
      go_wp2_with fail
      refine (D3.out _ B).mono ?_
      rintro e w9 ⟨m, j, rfl, wm, wj, b9⟩
      have B := B.then b9
      clear b9 D3
      have g3 := sf_first m j
      have ci := fun w => impl_FirstSquareFree m j w wm wj
      have cs := fun w => spec_FirstSquareFree m j w wm wj
      have ck := fun w (h : (firstSfR m j).1.size ≤ maxLen) => impl_IsSquareFree (firstSfR m j).1 w h
      generalize (firstSfR m j).1 = s at g3 ci cs ck
      generalize (firstSfR m j).2 = c3 at g3 ci cs
      have G3 := Lib.hid g3
      have CI := Lib.hid ci
      have CS := Lib.hid cs
      have CK := Lib.hid ck
      clear ci cs ck g3
      go_wp2_with fail
      refine (CI.out _).mono ?_
      rintro e w10 ⟨rfl, b10⟩
      have B := B.then b10
      clear b10
      go_wp2_with fail
      refine (CS.out _).mono ?_
      rintro e w11 ⟨rfl, b11⟩
      have B := B.then b11
      clear b11 CI CS
      go_upto_if 215 with fail
      go_cut [33, 34] from 216 (fun s33 s34 wc => Below w.heap.size w wc)
      case first => as_aux_lemma =>
        by_cases hc : c3 = 0
        · obtain ⟨e1, e2, e3⟩ := G3.out hc
          subst hc
          have ck := fun w => CK.out w (by unfold Go.maxLen; omega)
          rw [e1] at ck
          have CK := Lib.hid ck
          clear ck e1 G3
          go_wp2_with fail
          refine (CK.out _).mono ?_
          rintro e wa ⟨rfl, ba⟩
          have B := B.then ba
          go_wp2_with fail
          go_meet
          case rel => exact B
        · go_wp2_with fail
          go_meet
          case rel => exact B
      case rest => as_aux_lemma =>
        have B := hcut
        clear hcut G3 CK
        go_wp2_with fail
        refine (D4.out _ B).mono ?_
        rintro e w12 ⟨n, l, rfl, wn, wl, b12⟩
        have B := B.then b12
        clear b12 D4
        have g4 := sf_count n l
        have ci := fun w => impl_CountSquareFree n l w wn wl
        have cs := fun w => spec_CountSquareFree n l w wn wl
        have ck := fun w => impl_FirstSquareFree n l w wn wl
        generalize (countSfR n l).1 = r at g4 ci cs
        generalize (countSfR n l).2 = c4 at g4 ci cs
        generalize (firstSfR n l).1 = t at ck
        generalize (firstSfR n l).2 = c5 at g4 ck
        have G4 := Lib.hid g4
        have CI := Lib.hid ci
        have CS := Lib.hid cs
        have CK := Lib.hid ck
        clear ci cs ck g4
        go_wp2_with fail
        refine (CI.out _).mono ?_
        rintro e w13 ⟨rfl, b13⟩
        have B := B.then b13
        clear b13
        go_wp2_with fail
        refine (CS.out _).mono ?_
        rintro e w14 ⟨rfl, b14⟩
        have B := B.then b14
        clear b14 CI CS
        go_upto_if 259 with fail
        go_cut [41, 42] from 260 (fun s41 s42 wc => Below w.heap.size w wc)
        case first => as_aux_lemma =>
          by_cases hc : c4 = 0
          · obtain ⟨e1, e2⟩ := G4.out hc
            subst hc
            clear G4
            by_cases h5 : c5 = 0
            · have h6 : 0 < r := e1.1 h5
              subst h5
              clear e1 e2
              go_wp2_with fail
              refine (CK.out _).mono ?_
              rintro e wa ⟨rfl, ba⟩
              have B := B.then ba
              go_wp2_with fail
              go_meet
              case rel => exact B
            · have h6 : ¬ 0 < r := fun h => h5 (e1.2 h)
              have h7 : (c5 == 0) = false := beq_eq_false_iff_ne.2 h5
              have h8 : decide (0 < r) = false := decide_eq_false h6
              obtain rfl : r = 0 := by omega
              clear e1 e2 h6 h8
              go_wp2_with fail
              refine (CK.out _).mono ?_
              rintro e wa ⟨rfl, ba⟩
              have B := B.then ba
              go_wp2_with fail
              go_meet
              case rel => exact B
          · go_wp2_with fail
            go_meet
            case rel => exact B
        case rest => as_aux_lemma =>
          have B := hcut
          clear hcut G4 CK
          go_wp2_with fail
          refine (D5.out _ B).mono ?_
          rintro e w15 ⟨f, rfl, hf, b15⟩
          have B := B.then b15
          clear b15 D5
          have sf : f.size ≤ maxLen := by unfold Go.maxLen; omega
          have c1 := fun w => impl_FirstSquare f w sf
          have c2 := fun w => spec_FirstSquare f w sf
          have c3 := fun w => impl_IsSquareFree f w sf
          have c4 := fun w => spec_IsSquareFree f w sf
          have c5 := fun w => impl_IsOverlapFree f w sf
          have c6 := fun w => spec_IsOverlapFree f w sf
          generalize (fsqR f).1 = r1 at c1 c2
          generalize (fsqR f).2.1 = r2 at c1 c2
          generalize (fsqR f).2.2 = r3 at c1 c2
          generalize (isfR f).1 = r4 at c3 c4
          generalize (isfR f).2 = r5 at c3 c4
          generalize (iofR f).1 = r6 at c5 c6
          generalize (iofR f).2 = r7 at c5 c6
          have C1 := Lib.hid c1
          have C2 := Lib.hid c2
          have C3 := Lib.hid c3
          have C4 := Lib.hid c4
          have C5 := Lib.hid c5
          have C6 := Lib.hid c6
          clear c1 c2 c3 c4 c5 c6
          go_wp2_with fail
          refine (C1.out _).mono ?_
          rintro e w16 ⟨rfl, b16⟩
          have B := B.then b16
          clear b16 C1
          go_wp2_with fail
          refine (C2.out _).mono ?_
          rintro e w17 ⟨rfl, b17⟩
          have B := B.then b17
          clear b17 C2
          go_wp2_with fail
          refine (C3.out _).mono ?_
          rintro e w18 ⟨rfl, b18⟩
          have B := B.then b18
          clear b18 C3
          go_wp2_with fail
          refine (C4.out _).mono ?_
          rintro e w19 ⟨rfl, b19⟩
          have B := B.then b19
          clear b19 C4
          go_wp2_with fail
          refine (C5.out _).mono ?_
          rintro e w20 ⟨rfl, b20⟩
          have B := B.then b20
          clear b20 C5
          go_wp2_with fail
          refine (C6.out _).mono ?_
          rintro e w21 ⟨rfl, b21⟩
          have B := B.then b21
          clear b21 C6
          go_wp2_with fail
          go_ret
          exact ⟨rfl, B⟩

theorem own : ownKnob Try.prog.godebug = none := by kernel_rfl
theorem laidOut : laidOutB Try.prog = true := by kernel_rfl

set_option maxRecDepth 100000 in
theorem lifted (os : Os) (started : os.Started) (H : Type) (enc : TypeId × Value → H) :
    ReturnsInHanded {} Try.checked os 5 .any (Rows.fnSquareFreeSpec.pre6 enc Try.prog Try.f5 Rows.fnSquareFreeRow.domain false) (Rows.fnSquareFreeSpec.post enc Try.prog Try.f5 false true false false) := by
  refine returnsInHanded_of_change (C := Try.checked) own started (by kernel_rfl) Try.func5
    (ChangeSpec.witness6 (enc := enc) (C := Try.checked) false ⟨#[], #[.slice none 0 0], []⟩ 8 (by kernel_rfl) (by kernel_rfl) (by kernel_rfl) (by kernel_rfl)) ?_
  intro W base args ds gs before hval0 hW hcnd _
  have hval : ∀ (j : Nat) t v, Try.f5.params[j]? = some t → args[j]? = some v → Value.okWide Try.prog W .any base t v := hval0
  have hW' := hW
  obtain ⟨p, q, hA0, hV, rfl, hfz, hnd⟩ := hW
  have hA : DataW.TrodAll enc Try.prog W 0 (fun _ => true) true Try.f5.params.toList args.toList ds p := hA0
  rw [Try.params5] at hA hval
  obtain ⟨v0, vs0, d0, ds0, p0, q0, hargs, rfl, rfl, h0, r0⟩ := trodAll_cons hA
  obtain ⟨rfl, rfl, rfl⟩ := trodAll_nil r0
  obtain rfl : args = #[v0] := by cases args; simp_all
  obtain ⟨rfl, rfl⟩ := trodVars_none hV
  obtain ⟨a0, len0, cap0, rfl⟩ := okWide_slice Try.underlying31 (hval 0 31 v0 rfl rfl)
  have k0 := h0
  have lt0 : ∀ x ∈ p0, x.block < W.heap.size := by obtain ⟨m, hm⟩ := k0; exact DataW.trod_lt m _ _ _ hm
  obtain ⟨z0, w0⟩ : ∃ zs, IsRow .u8 W a0 len0 cap0 zs := by
    obtain ⟨fuel, hf⟩ := h0
    rcases open_ints Try.underlying31 Try.underlying5 (by kernel_rfl) hf with ⟨hcs, _⟩ | ⟨x, l, c, zs, hcs, _, hl, hm, hz, _, hcell, hwz⟩
    · simp [Value.cells] at hcs
      obtain ⟨rfl, rfl, rfl⟩ := hcs
      exact ⟨[], .inl ⟨rfl, rfl, rfl, rfl⟩⟩
    · simp [Value.cells] at hcs
      obtain ⟨rfl, rfl, rfl⟩ := hcs
      exact ⟨zs, .inr ⟨_, rfl, hl, hm, by simpa using hz, hcell, hwz⟩⟩
  clear hA0 hval0
  refine (walk a0 len0 cap0 z0 W w0).mono fun e W' ⟨he, bel⟩ => ?_
  subst he
  exact ⟨_, rfl, _, _, _, [], _, [], hW', trodAll_mk1 (shut_bool Try.underlying4 _), (trodAll_cons_mk (Below.trod laidOut (by kernel_rfl) (of_decide_eq_true (by kernel_rfl)) k0 bel lt0) trodAll_mk0), rfl, bel.frame _, fun h => by cases h⟩

theorem over : Rows.fnSquareFreeRow.holds Try.pinned (OpenSpec.ofChange Rows.fnSquareFreeSpec) :=
  OpenClaim.holds_of_wide 5 Try.f5 rfl rfl rfl rfl rfl rfl rfl ⟨rfl, rfl, rfl, rfl, rfl⟩ rfl rfl rfl rfl rfl (by kernel_rfl) Try.func5 (by kernel_rfl)
    (of_decide_eq_true (by kernel_rfl)) (by unfold Func.isWrapper; first | (rw [if_pos (by decide +kernel)]; kernel_rfl) | (rw [if_neg (by decide +kernel)]; exact ⟨rfl, rfl⟩))
    (fun os started H enc _ => lifted os started H enc)

theorem proved : Rows.FnSquareFreeSaid := over
#print axioms proved

end Go.Proofs.Ythjbdcoklgnnlab.fnSquareFree
