/- For every bytes: what the program says of places, factors, scattered words and lists of words hangs together. No condition. -/
import Derived.Test.YtlaefpmfbnldfabW2
import Derived.Test.YtlaefpmfbnldfabFnFac
import Derived.Test.YtlaefpmfbnldfabDrawIn
import Derived.Test.YtlaefpmfbnldfabDrawRoot
import Derived.Test.YtlaefpmfbnldfabLike
import Derived.Test.YtlaefpmfbnldfabPlacesI
import Derived.Test.YtlaefpmfbnldfabPlacesS
import Derived.Test.YtlaefpmfbnldfabFactorsI
import Derived.Test.YtlaefpmfbnldfabFactorsS
import Derived.Test.YtlaefpmfbnldfabFactor
import Derived.Deep.Cut
import Derived.Deep.CutRange
import Derived.Test.YtlaefpmfbnldfabRows
import Derived.WalkKit
import Derived.ProofKit
import Derived.OpenShut
import Derived.ShutString
import Derived.ChangeOld
import Derived.Below
namespace Go.Proofs.Ytlaefpmfbnldfab.fnPlacesOfFactors
open Go.ChangeShapes Go.WideShapes Go.ChangeAt Go.RowKit
open Go.ChangeMaps (open_string shut_string)
set_option linter.unusedVariables false
set_option linter.unusedSimpArgs false

set_option maxRecDepth 100000 in
set_option maxHeartbeats 8000000 in
theorem walk (a0 : Option Addr) (len0 cap0 : Nat) (z0 : List Int) (w : World) (w0 : IsRow .u8 w a0 len0 cap0 z0) :
    Calls Try.prog 8 #[.slice a0 len0 cap0] w fun e w' => e = .returned (.bool true) ∧ Below w.heap.size w w' := by
  by_cases hbig : 4096 < len0
  · have C0 := Lib.hid (big_yes a0 len0 cap0 w hbig)
    clear w0
    go_enter Try.func8, Try.ntmps8
    go_wp2_with fail
    refine C0.out.mono ?_
    rintro e w1 ⟨rfl, b1⟩
    go_wp2_with fail
    go_ret
    exact ⟨rfl, b1⟩
  have hlen : len0 ≤ 1048576 := by omega
  have C0 := Lib.hid (big_no a0 len0 cap0 w (by omega))
  have D1 := Lib.hid (fun (w' : World) (b : Below w.heap.size w w') => DrawPlacesOf_any a0 len0 cap0 z0 w' (w0.below b) hlen)
  have D2 := Lib.hid (fun (w' : World) (b : Below w.heap.size w w') => DrawCountScattered_any a0 len0 cap0 z0 w' (w0.below b) hlen)
  have D3 := Lib.hid (fun (w' : World) (b : Below w.heap.size w w') => DrawFactorsOf_any a0 len0 cap0 z0 w' (w0.below b) hlen)
  have D4 := Lib.hid (fun (w' : World) (b : Below w.heap.size w w') => DrawFactorAt_any a0 len0 cap0 z0 w' (w0.below b) hlen)
  have D5 := Lib.hid (fun (w' : World) (b : Below w.heap.size w w') => DrawWordsOf_any a0 len0 cap0 z0 w' (w0.below b) hlen)
  have D6 := Lib.hid (fun (w' : World) (b : Below w.heap.size w w') => DrawCountLetters_any a0 len0 cap0 z0 w' (w0.below b) hlen)
  clear w0 hbig hlen
  go_enter Try.func8, Try.ntmps8
  go_wp2_with fail
  refine C0.out.mono ?_
  rintro e w1 ⟨rfl, B⟩
  clear C0
  go_wp2_with fail
  refine (D1.out _ B).mono ?_
  rintro e w2 ⟨x, u, rfl, hx, hu, b2⟩
  have B := B.then b2
  clear b2 D1
  have sx := SomeT.maxLen hx
  have su := SomeT.maxLen hu
  have hq := fac_good (x := x) (u := u)
  have ci := fun w => impl_PlacesOf x u w sx su
  have cs := fun w => spec_PlacesOf x u w sx su
  generalize (placesR x u).1 = P at hq ci cs
  generalize (placesR x u).2 = c at hq ci cs
  have HQ := Lib.hid hq
  have CI := Lib.hid ci
  have CS := Lib.hid cs
  clear ci cs hq
  go_wp2_with fail
  refine (CI.out _).mono ?_
  rintro e w3 ⟨v1, rfl, o1, b3⟩
  have B := B.then b3
  clear b3
  go_wp2_with fail
  refine (CS.out _).mono ?_
  rintro e w4 ⟨v2, rfl, o2, b4⟩
  have o1 := o1.below b4
  have B := B.then b4
  clear b4
  go_wp2_with fail
  refine (likeInts_yes _ _ _ _ P _ o1 o2).mono ?_
  rintro e w5 ⟨rfl, b5⟩
  have o1 := o1.below b5
  have B := B.then b5
  clear b5
  clear o2 CI CS
  go_upto_if 89 with fail
  go_cut [9, 10, 11, 12, 13, 14, 15, 16, 17] from 90 (fun s9 s10 s11 s12 s13 s14 s15 s16 s17 wc => Below w.heap.size w wc)
  case first => as_aux_lemma =>
    by_cases hc : c = 0
    · obtain ⟨Fs, s, A⟩ := HQ.out hc
      subst hc
      obtain ⟨ad, cp, rfl, form⟩ := o1.form
      have hs := A.size
      have hpl := A.plen
      have hfl := A.flen
      have HF := Lib.hid form
      have HA := Lib.hid A
      have kf : ∀ z ∈ P, ∀ w, Calls Try.prog 81 #[.string x, .int .i64 z, .int .i64 (u.size : Int)] w fun e w' => e = .returned (.tuple #[.string u, .int .i64 0]) ∧ Below w.heap.size w w' := fun z hz w => by
        have h1 := HA.out.places z hz
        have := impl_FactorAt x z (u.size : Int) w sx (wf_near (by omega) (by omega)) (wf_near (by omega) (by omega))
        rw [h1.1] at this
        exact this
      have kl : ∀ w, Calls Try.prog 82 #[.string x, .int .i64 (u.size : Int)] w (RetS Fs 0 w) := fun w => by
        have := impl_FactorsOf x (u.size : Int) w sx (wf_near (by omega) (by omega))
        rw [HA.out.fac] at this
        exact this
      have ks : ∀ w, Calls Try.prog 83 #[.string u, .string x] w fun e w' => e = .returned (.tuple #[.bool s, .int .i64 0]) ∧ Below w.heap.size w w' := fun w => by
        have := impl_IsScattered u x w su sx
        rw [HA.out.scat] at this
        exact this
      have KF := Lib.hid kf
      have KL := Lib.hid kl
      have KS := Lib.hid ks
      clear kf kl ks A form o1
      go_wp2
      go_loopw [9] (fun i wr => ∃ k : Nat, k ≤ P.length ∧ i = .int .i64 (k : Int) ∧ Below w5.heap.size w5 wr ∧ Below w.heap.size w wr) (fun i _ => P.length - (intOf i).toNat)
      case atStart => exact ⟨0, Nat.zero_le _, rfl, Below.refl _ _, B⟩
      case round =>
        obtain ⟨k, hk, rfl, hB, hBw⟩ := hrel
        clear B
        by_cases hp : k < P.length
        · obtain ⟨g, rfl, hg, hkc, hcell⟩ := HF.out k hp
          have k1 : wr.cell? ⟨g, k, none⟩ = some (.int .i64 (P[k]'hp)) := by rw [(bcell hB).1 g k hg]; exact hcell
          have KZ := Lib.hid (KF.out _ (List.getElem_mem hp))
          clear hcell
          generalize P[k]'hp = z at k1 KZ
          go_wp2_with fail
          refine (KZ.out _).mono ?_
          rintro e wq ⟨rfl, bq⟩
          go_wp2_with fail
          go_roundw
          case rel => exact ⟨k + 1, by omega, by go_num, hB.then bq, hBw.then bq⟩
          case measure => simp [intOf]; omega
        · go_wp2_with fail
          refine (KL.out _).mono ?_
          rintro e wf ⟨vF, rfl, oF, bf⟩
          have BF := hBw.then bf
          obtain ⟨ae, ce, rfl, forme⟩ := oF.form
          have HE := Lib.hid forme
          clear oF forme bf hB hBw
          go_wp2
          go_loopw [14, 15] (fun b i wr => ∃ k : Nat, k ≤ Fs.length ∧ b = .bool (hasW u (Fs.take k)) ∧ i = .int .i64 (k : Int) ∧ Below wf.heap.size wf wr ∧ Below w.heap.size w wr) (fun _ i _ => Fs.length - (intOf i).toNat)
          case atStart => exact ⟨0, Nat.zero_le _, rfl, rfl, Below.refl _ _, BF⟩
          case round =>
            obtain ⟨k, hk, rfl, rfl, hB, hBw⟩ := hrel
            clear BF
            by_cases hp : k < Fs.length
            · obtain ⟨g, rfl, hg, hkc, hcell⟩ := HE.out k hp
              have k1 : wr.cell? ⟨g, k, none⟩ = some (.string (Fs[k]'hp)) := by rw [(bcell hB).1 g k hg]; exact hcell
              have hm := mem_take_succ (u := u) hp
              have HM := Lib.hid hm
              by_cases hk0 : k = 0
              · subst hk0
                clear hm hcell
                generalize hcd : Fs[0]'hp = cur at k1 HM
                clear hcd
                generalize hasW u (Fs.take 0) = b at HM ⊢
                by_cases he : cur = u
                · have e1 := teq_yes he
                  have hr : hasW u (Fs.take (0 + 1)) = true := by rw [HM.out, decide_eq_true he, Bool.or_true]
                  clear HM he
                  cases b
                  all_goals
                    go_wp2
                    go_quiet (fail)
                    go_wp2
                    go_roundw
                    case rel => exact ⟨0 + 1, by omega, by rw [hr], by go_num, hB.drewN _, hBw.drewN _⟩
                    case measure => simp [intOf]; omega
                · have e1 := teq_no he
                  have hr : hasW u (Fs.take (0 + 1)) = b := by rw [HM.out, decide_eq_false he, Bool.or_false]
                  clear HM he
                  cases b
                  all_goals
                    go_wp2
                    go_quiet (fail)
                    go_wp2
                    go_roundw
                    case rel => exact ⟨0 + 1, by omega, by rw [hr], by go_num, hB.drewN _, hBw.drewN _⟩
                    case measure => simp [intOf]; omega
              · obtain ⟨q, rfl⟩ : ∃ q, k = q + 1 := ⟨k - 1, by omega⟩
                obtain ⟨g', hgg, _, hqc, hcell2⟩ := HE.out q (by omega)
                obtain rfl : g = g' := by simpa using hgg
                have k2 : wr.cell? ⟨g, q, none⟩ = some (.string (Fs[q]'(by omega))) := by rw [(bcell hB).1 g q hg]; exact hcell2
                obtain ⟨d1, d2, d3, d4⟩ := asc_facts (asc_less HA.out.asc hp)
                clear hm hcell hcell2 hgg
                generalize hcd : Fs[q + 1]'hp = cur at k1 HM d1 d2 d3 d4
                clear hcd
                generalize hpd : Fs[q]'(by omega) = prev at k2 d1 d2 d3 d4
                clear hpd
                generalize hasW u (Fs.take (q + 1)) = b at HM ⊢
                by_cases he : cur = u
                · have e1 := teq_yes he
                  have hr : hasW u (Fs.take (q + 1 + 1)) = true := by rw [HM.out, decide_eq_true he, Bool.or_true]
                  clear HM he
                  cases b
                  all_goals
                    go_wp2
                    go_quiet (fail)
                    go_wp2
                    go_roundw
                    case rel => exact ⟨q + 1 + 1, by omega, by rw [hr], by go_num, hB.drewN _, hBw.drewN _⟩
                    case measure => simp [intOf]; omega
                · have e1 := teq_no he
                  have hr : hasW u (Fs.take (q + 1 + 1)) = b := by rw [HM.out, decide_eq_false he, Bool.or_false]
                  clear HM he
                  cases b
                  all_goals
                    go_wp2
                    go_quiet (fail)
                    go_wp2
                    go_roundw
                    case rel => exact ⟨q + 1 + 1, by omega, by rw [hr], by go_num, hB.drewN _, hBw.drewN _⟩
                    case measure => simp [intOf]; omega
            · have hke : Fs.take k = Fs := List.take_of_length_le (by omega)
              rw [hke]
              clear hke
              by_cases hP0 : 0 < P.length
              · have hf : hasW u Fs = true := hasW_iff.2 (HA.out.found.2 hP0)
                have hst : s = true := HA.out.hold hP0
                have hP1 : (0 : Int) < (P.length : Int) := by omega
                subst hst
                rw [hf]
                clear hf HA
                go_wp2_with fail
                refine (KS.out _).mono ?_
                rintro e wt ⟨rfl, bt⟩
                have B := hBw.then bt
                go_wp2_with fail
                go_meet
                case rel => exact B
              · have hf : hasW u Fs = false := Bool.eq_false_iff.2 (fun h => hP0 (HA.out.found.1 (hasW_iff.1 h)))
                have hP1 : ¬ (0 : Int) < (P.length : Int) := by omega
                rw [hf]
                clear hf HA
                go_wp2_with fail
                refine (KS.out _).mono ?_
                rintro e wt ⟨rfl, bt⟩
                have B := hBw.then bt
                go_wp2_with fail
                go_meet
                case rel => exact B
    · go_wp2_with fail
      go_meet
      case rel => exact B
  case rest => as_aux_lemma =>
    have B := hcut
    clear hcut HQ o1
    go_wp2_with fail
    refine (D2.out _ B).mono ?_
    rintro e w6 ⟨a, b, rfl, ha, hb, b6⟩
    have B := B.then b6
    clear b6 D2
    have sa := SomeT.maxLen ha
    have sb := SomeT.maxLen hb
    have hq := csc_good a b
    have ci := fun w => impl_CountScattered a b w sa sb
    have cs := fun w => spec_CountScattered a b w sa sb
    have ck := fun w => impl_IsScattered a b w sa sb
    have cl := fun w => spec_IsScattered a b w sa sb
    generalize (cscR a b).1 = r at hq ci cs
    generalize (cscR a b).2 = q at hq ci cs
    generalize (scatR a b).1 = s at hq ck cl
    generalize (scatR a b).2 = q2 at ck cl
    have HQ := Lib.hid hq
    have CI := Lib.hid ci
    have CS := Lib.hid cs
    have CK := Lib.hid ck
    have CL := Lib.hid cl
    clear ci cs ck cl hq
    go_wp2_with fail
    refine (CI.out _).mono ?_
    rintro e w7 ⟨rfl, b7⟩
    have B := B.then b7
    clear b7
    go_wp2_with fail
    refine (CS.out _).mono ?_
    rintro e w8 ⟨rfl, b8⟩
    have B := B.then b8
    clear b8
    go_wp2_with fail
    refine (CK.out _).mono ?_
    rintro e w9 ⟨rfl, b9⟩
    have B := B.then b9
    clear b9
    go_wp2_with fail
    refine (CL.out _).mono ?_
    rintro e w10 ⟨rfl, b10⟩
    have B := B.then b10
    clear b10
    clear CI CS CK CL
    go_upto_region 31 with fail
    go_cut [234] from 207 (fun s234 wc => s234 = .bool false ∧ Below w.heap.size w wc)
    case first =>
      by_cases hq0 : q = 0
      · have hd := HQ.out hq0
        subst hq0
        by_cases hr : r > 0
        · have hs : s = true := by rw [← hd]; exact decide_eq_true hr
          subst hs
          clear hd HQ
          go_wp2_with fail
          go_meet
          case rel => exact ⟨rfl, B⟩
        · have hs : s = false := by rw [← hd]; exact decide_eq_false hr
          subst hs
          clear hd HQ
          go_wp2_with fail
          go_meet
          case rel => exact ⟨rfl, B⟩
      · clear HQ
        go_wp2_with fail
        go_meet
        case rel => exact ⟨rfl, B⟩
    case rest => as_aux_lemma =>
      obtain ⟨rfl, B⟩ := hcut
      clear HQ
      go_wp2_with fail
      refine (D3.out _ B).mono ?_
      rintro e w11 ⟨z, m, rfl, hz, wm, b11⟩
      have B := B.then b11
      clear b11 D3
      have sz := SomeT.maxLen hz
      have ci := fun w => impl_FactorsOf z m w sz wm
      have cs := fun w => spec_FactorsOf z m w sz wm
      generalize (factorsR z m).1 = L3 at ci cs
      generalize (factorsR z m).2 = q3 at ci cs
      have CI3 := Lib.hid ci
      have CS3 := Lib.hid cs
      clear ci cs
      go_wp2_with fail
      refine (CI3.out _).mono ?_
      rintro e w12 ⟨v3, rfl, o3, b12⟩
      have B := B.then b12
      clear b12
      go_wp2_with fail
      refine (CS3.out _).mono ?_
      rintro e w13 ⟨v4, rfl, o4, b13⟩
      have o3 := o3.below b13
      have B := B.then b13
      clear b13
      clear CI3 CS3
      go_wp2_with fail
      refine (D4.out _ B).mono ?_
      rintro e w14 ⟨y, i4, m4, rfl, hy, wi, wm4, b14⟩
      have o3 := o3.below b14
      have o4 := o4.below b14
      have B := B.then b14
      clear b14 D4
      have sy := SomeT.maxLen hy
      have ci := fun w => impl_FactorAt y i4 m4 w sy wi wm4
      have cs := fun w => spec_FactorAt y i4 m4 w sy wi wm4
      generalize (factR y i4 m4).1 = r4 at ci cs
      generalize (factR y i4 m4).2 = q4 at ci cs
      have CI4 := Lib.hid ci
      have CS4 := Lib.hid cs
      clear ci cs
      go_wp2_with fail
      refine (CI4.out _).mono ?_
      rintro e w15 ⟨rfl, b15⟩
      have o3 := o3.below b15
      have o4 := o4.below b15
      have B := B.then b15
      clear b15
      go_wp2_with fail
      refine (CS4.out _).mono ?_
      rintro e w16 ⟨rfl, b16⟩
      have o3 := o3.below b16
      have o4 := o4.below b16
      have B := B.then b16
      clear b16
      clear CI4 CS4
      as_aux_lemma =>
        go_wp2_with fail
        refine (D5.out _ B).mono ?_
        rintro e w17 ⟨m5, k5, rfl, wm5, wk5, b17⟩
        have o3 := o3.below b17
        have o4 := o4.below b17
        have B := B.then b17
        clear b17 D5
        have ci := fun w => impl_WordsOf m5 k5 w wm5 wk5
        have cs := fun w => spec_WordsOf m5 k5 w wm5 wk5
        generalize (wordsR m5 k5).1 = L5 at ci cs
        generalize (wordsR m5 k5).2 = q5 at ci cs
        have CI5 := Lib.hid ci
        have CS5 := Lib.hid cs
        clear ci cs
        go_wp2_with fail
        refine (CI5.out _).mono ?_
        rintro e w18 ⟨v5, rfl, o5, b18⟩
        have o3 := o3.below b18
        have o4 := o4.below b18
        have B := B.then b18
        clear b18
        go_wp2_with fail
        refine (CS5.out _).mono ?_
        rintro e w19 ⟨v6, rfl, o6, b19⟩
        have o3 := o3.below b19
        have o4 := o4.below b19
        have o5 := o5.below b19
        have B := B.then b19
        clear b19
        clear CI5 CS5
        go_wp2_with fail
        refine (D6.out _ B).mono ?_
        rintro e w20 ⟨t, rfl, ht, b20⟩
        have o3 := o3.below b20
        have o4 := o4.below b20
        have o5 := o5.below b20
        have o6 := o6.below b20
        have B := B.then b20
        clear b20 D6
        have st := SomeT.maxLen ht
        have ci := fun w => impl_CountLetters t w st
        have cs := fun w => spec_CountLetters t w st
        generalize (countR t).1 = L6 at ci cs
        generalize (countR t).2 = q6 at ci cs
        have CI6 := Lib.hid ci
        have CS6 := Lib.hid cs
        clear ci cs
        go_wp2_with fail
        refine (CI6.out _).mono ?_
        rintro e w21 ⟨v7, rfl, o7, b21⟩
        have o3 := o3.below b21
        have o4 := o4.below b21
        have o5 := o5.below b21
        have o6 := o6.below b21
        have B := B.then b21
        clear b21
        go_wp2_with fail
        refine (CS6.out _).mono ?_
        rintro e w22 ⟨v8, rfl, o8, b22⟩
        have o3 := o3.below b22
        have o4 := o4.below b22
        have o5 := o5.below b22
        have o6 := o6.below b22
        have o7 := o7.below b22
        have B := B.then b22
        clear b22
        clear CI6 CS6
        as_aux_lemma =>
          have ci := fun w => impl_LettersOf t w st
          have cs := fun w => spec_LettersOf t w st
          generalize (lettersR t).1 = L7 at ci cs
          generalize (lettersR t).2 = q7 at ci cs
          have CI7 := Lib.hid ci
          have CS7 := Lib.hid cs
          clear ci cs
          go_wp2_with fail
          refine (CI7.out _).mono ?_
          rintro e w23 ⟨v9, rfl, o9, b23⟩
          have o3 := o3.below b23
          have o4 := o4.below b23
          have o5 := o5.below b23
          have o6 := o6.below b23
          have o7 := o7.below b23
          have o8 := o8.below b23
          have B := B.then b23
          clear b23
          go_wp2_with fail
          refine (CS7.out _).mono ?_
          rintro e w24 ⟨v10, rfl, o10, b24⟩
          have o3 := o3.below b24
          have o4 := o4.below b24
          have o5 := o5.below b24
          have o6 := o6.below b24
          have o7 := o7.below b24
          have o8 := o8.below b24
          have o9 := o9.below b24
          have B := B.then b24
          clear b24
          clear CI7 CS7
          have ci := fun w => impl_ReverseOf t w st
          have cs := fun w => spec_ReverseOf t w st
          generalize (revR t).1 = r8 at ci cs
          generalize (revR t).2 = q8 at ci cs
          have CI8 := Lib.hid ci
          have CS8 := Lib.hid cs
          clear ci cs
          go_wp2_with fail
          refine (CI8.out _).mono ?_
          rintro e w25 ⟨rfl, b25⟩
          have o3 := o3.below b25
          have o4 := o4.below b25
          have o5 := o5.below b25
          have o6 := o6.below b25
          have o7 := o7.below b25
          have o8 := o8.below b25
          have o9 := o9.below b25
          have o10 := o10.below b25
          have B := B.then b25
          clear b25
          go_wp2_with fail
          refine (CS8.out _).mono ?_
          rintro e w26 ⟨rfl, b26⟩
          have o3 := o3.below b26
          have o4 := o4.below b26
          have o5 := o5.below b26
          have o6 := o6.below b26
          have o7 := o7.below b26
          have o8 := o8.below b26
          have o9 := o9.below b26
          have o10 := o10.below b26
          have B := B.then b26
          clear b26
          clear CI8 CS8
          go_wp2_with fail
          refine (words5_yes _ _ _ _ L3 _ o3 o4).mono ?_
          rintro e w27 ⟨rfl, b27⟩
          have o3 := o3.below b27
          have o4 := o4.below b27
          have o5 := o5.below b27
          have o6 := o6.below b27
          have o7 := o7.below b27
          have o8 := o8.below b27
          have o9 := o9.below b27
          have o10 := o10.below b27
          have B := B.then b27
          clear b27
          go_wp2_with fail
          refine (words5_yes _ _ _ _ L5 _ o5 o6).mono ?_
          rintro e w28 ⟨rfl, b28⟩
          have o3 := o3.below b28
          have o4 := o4.below b28
          have o5 := o5.below b28
          have o6 := o6.below b28
          have o7 := o7.below b28
          have o8 := o8.below b28
          have o9 := o9.below b28
          have o10 := o10.below b28
          have B := B.then b28
          clear b28
          go_wp2_with fail
          refine (likeInts_yes _ _ _ _ L6 _ o7 o8).mono ?_
          rintro e w29 ⟨rfl, b29⟩
          have o3 := o3.below b29
          have o4 := o4.below b29
          have o5 := o5.below b29
          have o6 := o6.below b29
          have o7 := o7.below b29
          have o8 := o8.below b29
          have o9 := o9.below b29
          have o10 := o10.below b29
          have B := B.then b29
          clear b29
          go_wp2_with fail
          refine (likeInts_yes _ _ _ _ L7 _ o9 o10).mono ?_
          rintro e w30 ⟨rfl, b30⟩
          have o3 := o3.below b30
          have o4 := o4.below b30
          have o5 := o5.below b30
          have o6 := o6.below b30
          have o7 := o7.below b30
          have o8 := o8.below b30
          have o9 := o9.below b30
          have o10 := o10.below b30
          have B := B.then b30
          clear b30
          go_wp2_with fail
          go_ret
          exact ⟨rfl, B⟩

theorem own : ownKnob Try.prog.godebug = none := by kernel_rfl
theorem laidOut : laidOutB Try.prog = true := by kernel_rfl

set_option maxRecDepth 100000 in
theorem lifted (os : Os) (started : os.Started) (H : Type) (enc : TypeId × Value → H) :
    ReturnsInHanded {} Try.checked os 8 .any (Rows.fnPlacesOfFactorsSpec.pre6 enc Try.prog Try.f8 Rows.fnPlacesOfFactorsRow.domain false) (Rows.fnPlacesOfFactorsSpec.post enc Try.prog Try.f8 false true false false) := by
  refine returnsInHanded_of_change (C := Try.checked) own started (by kernel_rfl) Try.func8
    (ChangeSpec.witness6 (enc := enc) (C := Try.checked) false ⟨#[], #[.slice none 0 0], []⟩ 8 (by kernel_rfl) (by kernel_rfl) (by kernel_rfl) (by kernel_rfl)) ?_
  intro W base args ds gs before hval0 hW hcnd _
  have hval : ∀ (j : Nat) t v, Try.f8.params[j]? = some t → args[j]? = some v → Value.okWide Try.prog W .any base t v := hval0
  have hW' := hW
  obtain ⟨p, q, hA0, hV, rfl, hfz, hnd⟩ := hW
  have hA : DataW.TrodAll enc Try.prog W 0 (fun _ => true) true Try.f8.params.toList args.toList ds p := hA0
  rw [Try.params8] at hA hval
  obtain ⟨v0, vs0, d0, ds0, p0, q0, hargs, rfl, rfl, h0, r0⟩ := trodAll_cons hA
  obtain ⟨rfl, rfl, rfl⟩ := trodAll_nil r0
  obtain rfl : args = #[v0] := by cases args; simp_all
  obtain ⟨rfl, rfl⟩ := trodVars_none hV
  obtain ⟨a0, len0, cap0, rfl⟩ := okWide_slice Try.underlying25 (hval 0 25 v0 rfl rfl)
  have k0 := h0
  have lt0 : ∀ x ∈ p0, x.block < W.heap.size := by obtain ⟨m, hm⟩ := k0; exact DataW.trod_lt m _ _ _ hm
  obtain ⟨z0, w0⟩ : ∃ zs, IsRow .u8 W a0 len0 cap0 zs := by
    obtain ⟨fuel, hf⟩ := h0
    rcases open_ints Try.underlying25 Try.underlying5 (by kernel_rfl) hf with ⟨hcs, _⟩ | ⟨x, l, c, zs, hcs, _, hl, hm, hz, _, hcell, hwz⟩
    · simp [Value.cells] at hcs
      obtain ⟨rfl, rfl, rfl⟩ := hcs
      exact ⟨[], .inl ⟨rfl, rfl, rfl, rfl⟩⟩
    · simp [Value.cells] at hcs
      obtain ⟨rfl, rfl, rfl⟩ := hcs
      exact ⟨zs, .inr ⟨_, rfl, hl, hm, by simpa using hz, hcell, hwz⟩⟩
  clear hA0 hval0
  refine (walk a0 len0 cap0 z0 W w0).mono fun e W' ⟨he, bel⟩ => ?_
  subst he
  exact ⟨_, rfl, _, _, _, [], _, [], hW', trodAll_mk1 (shut_bool Try.underlying4 _), (trodAll_cons_mk (Below.trod laidOut (by kernel_rfl) (of_decide_eq_true (by kernel_rfl)) k0 bel lt0) trodAll_mk0), rfl, bel.frame _, fun h => by cases h⟩

theorem over : Rows.fnPlacesOfFactorsRow.holds Try.pinned (OpenSpec.ofChange Rows.fnPlacesOfFactorsSpec) :=
  OpenClaim.holds_of_wide 8 Try.f8 rfl rfl rfl rfl rfl rfl rfl ⟨rfl, rfl, rfl, rfl, rfl⟩ rfl rfl rfl rfl rfl (by kernel_rfl) Try.func8 (by kernel_rfl)
    (of_decide_eq_true (by kernel_rfl)) (by unfold Func.isWrapper; first | (rw [if_pos (by decide +kernel)]; kernel_rfl) | (rw [if_neg (by decide +kernel)]; exact ⟨rfl, rfl⟩))
    (fun os started H enc _ => lifted os started H enc)

theorem proved : Rows.FnPlacesOfFactorsSaid := over
#print axioms proved

end Go.Proofs.Ytlaefpmfbnldfab.fnPlacesOfFactors
