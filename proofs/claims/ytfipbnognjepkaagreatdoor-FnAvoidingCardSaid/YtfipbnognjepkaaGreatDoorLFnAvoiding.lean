/- For every list of bytes: first words avoid their patterns, they are there just if words are counted, the longest are longest, unavoidable patterns are in the Zimin word of 3, as the law asks. Condition: the tables of the library that its code names hold what the program's text lays. -/
import Derived.Test.YtfipbnognjepkaaGreatDoorW14
import Derived.Test.YtfipbnognjepkaaGreatDoorZimD
import Derived.Test.YtfipbnognjepkaaGreatDoorPatH
import Derived.Test.YtfipbnognjepkaaGreatDoorPatB
import Derived.Test.YtfipbnognjepkaaGreatDoorUnaI
import Derived.Test.YtfipbnognjepkaaGreatDoorRows
import Derived.WalkKit
import Derived.ProofKit
import Derived.OpenShut
import Derived.ShutString
import Derived.ChangeOld
import Derived.Below
import Derived.LaidMore
import Derived.Lay
import Derived.SevenTiedAt
import Derived.Test.YtfipbnognjepkaaGreatDoorCards
import Derived.Test.YtfipbnognjepkaaGreatDoorTie
import Derived.Stop.Joined
import Derived.Deep.Cut
import Derived.Deep.CutRange
namespace Go.Proofs.YtfipbnognjepkaaGreatDoor.fnAvoiding
open Go.ChangeShapes Go.WideShapes Go.ChangeAt Go.RowKit
open Go.ChangeMaps (open_string shut_string)
set_option linter.unusedVariables false

theorem gA (p : ByteArray) (k n : Int) : ((firstAvR p k n).2 ≠ 0 ∧ (firstAvR p k n).1 = ⟨#[]⟩) ∨ ((firstAvR p k n).2 = 0 ∧ hasR (firstAvR p k n).1 p = (false, 0) ∧ ((firstAvR p k n).1.size : Int) = n ∧ (firstAvR p k n).1.size ≤ 12) := by
  by_cases h : (firstAvR p k n).2 = 0
  · exact .inr ⟨h, firstAv_good h⟩
  · exact .inl ⟨h, firstAv_none h⟩
theorem gB (p : ByteArray) (k n : Int) : (countAvR p k n).2 ≠ 0 ∨ ((countAvR p k n).2 = 0 ∧ ((0 < (countAvR p k n).1 ∧ (firstAvR p k n).2 = 0) ∨ (¬ 0 < (countAvR p k n).1 ∧ (firstAvR p k n).2 ≠ 0))) := by
  by_cases h : (countAvR p k n).2 = 0
  · refine .inr ⟨h, ?_⟩
    by_cases h2 : 0 < (countAvR p k n).1
    · exact .inl ⟨h2, (countAv_good h).1 h2⟩
    · exact .inr ⟨h2, fun e => h2 ((countAv_good h).2 e)⟩
  · exact .inl h
theorem gC (p : ByteArray) (k : Int) : (longAvR p k).2 ≠ 0 ∨ ((longAvR p k).2 = 0 ∧ 0 ≤ (longAvR p k).1 ∧ (longAvR p k).1 ≤ 10 ∧ (firstAvR p k (longAvR p k).1).2 = 0 ∧ (firstAvR p k ((longAvR p k).1 + 1)).2 = 4) := by
  by_cases h : (longAvR p k).2 = 0
  · exact .inr ⟨h, longAv_good h⟩
  · exact .inl h
theorem gD (z : Int) : (zimR z).2 ≠ 0 ∨ ((zimR z).2 = 0 ∧ (1 ≤ z ∧ z ≤ 5) ∧ ((zimR z).1.size : Int) + 1 = 2 ^ z.toNat) := by
  by_cases h : (zimR z).2 = 0
  · exact .inr ⟨h, zim_good h⟩
  · exact .inl h
theorem gE (s : ByteArray) : ((unavR s).2 ≠ 0 ∨ (unavR s).1 = false) ∨ ((unavR s).2 = 0 ∧ (unavR s).1 = true ∧ hasR (bt (zimL 3)) s = (true, 0)) := by
  by_cases h : (unavR s).2 = 0
  · cases h2 : (unavR s).1 with
    | false => exact .inl (.inr rfl)
    | true => exact .inr ⟨h, rfl, una_good h2⟩
  · exact .inl (.inl h)

set_option maxRecDepth 100000 in
set_option maxHeartbeats 4000000 in
theorem walk (a0 : Option Addr) (len0 cap0 : Nat) (z0 : List Int) (w : World) (w0 : IsRow .u8 w a0 len0 cap0 z0) :
    Calls Tryz.prog 3 #[.slice a0 len0 cap0] w fun e w' => e = .returned (.bool true) ∧ Below w.heap.size w w' := by
  have h0 := Lib.hid w0
  clear w0
  by_cases hbig : 4096 < len0
  · clear h0
    have C0 := Lib.hid (big_yes a0 len0 cap0 w hbig)
    go_enter Tryz.func3, Tryz.ntmps3
    go_wp2_with fail
    refine C0.out.mono ?_
    rintro e x0 ⟨rfl, b⟩
    go_wp2_with fail
    go_ret
    exact ⟨rfl, b⟩
  have C0 := Lib.hid (big_no a0 len0 cap0 w (by omega))
  have hl : len0 ≤ 1048576 := by omega
  have DFirstAvoiding := Lib.hid (fun w' (b : Below w.heap.size w w') => DrawFirstAvoiding_any a0 len0 cap0 z0 w' (h0.out.below b) hl)
  have DCountAvoiding := Lib.hid (fun w' (b : Below w.heap.size w w') => DrawCountAvoiding_any a0 len0 cap0 z0 w' (h0.out.below b) hl)
  have DLongestAvoiding := Lib.hid (fun w' (b : Below w.heap.size w w') => DrawLongestAvoiding_any a0 len0 cap0 z0 w' (h0.out.below b) hl)
  have DZiminWord := Lib.hid (fun w' (b : Below w.heap.size w w') => DrawZiminWord_any a0 len0 cap0 z0 w' (h0.out.below b) hl)
  have DIsUnavoidable := Lib.hid (fun w' (b : Below w.heap.size w w') => DrawIsUnavoidable_any a0 len0 cap0 z0 w' (h0.out.below b) hl)
  clear h0
  go_enter Tryz.func3, Tryz.ntmps3
  have B := Below.refl w.heap.size w
  go_wp2_with fail
  refine (C0.out).mono ?_
  rintro e x1 ⟨rfl, b⟩
  have B := B.then b
  clear b C0
  go_wp2_with fail
  refine (DFirstAvoiding.out _ B).mono ?_
  rintro e x2 ⟨p, k, n, rfl, hp, wk, wn, b⟩
  have B := B.then b
  clear b DFirstAvoiding
  have sp : p.size ≤ maxLen := by unfold maxLen; omega
  have ci := fun w => impl_FirstAvoiding p k n w sp
  have cs := fun w => spec_FirstAvoiding p k n w sp
  have ga := gA p k n
  have HF := Lib.hid (fun (f : ByteArray) (h : f.size ≤ maxLen) w => impl_HasPattern f p w h sp)
  generalize (firstAvR p k n).1 = f at ci cs ga
  generalize (firstAvR p k n).2 = c1 at ci cs ga
  have CI := Lib.hid ci
  have CS := Lib.hid cs
  have GA := Lib.hid ga
  clear ci cs ga
  go_wp2_with fail
  refine (CI.out _).mono ?_
  rintro e x3 ⟨rfl, b⟩
  have B := B.then b
  clear b 
  go_wp2_with fail
  refine (CS.out _).mono ?_
  rintro e x4 ⟨rfl, b⟩
  have B := B.then b
  clear b CI CS
  go_wp2_with fail
  refine (DCountAvoiding.out _ B).mono ?_
  rintro e x5 ⟨q, l, m, rfl, hq, wl, wm, b⟩
  have B := B.then b
  clear b DCountAvoiding
  have sq : q.size ≤ maxLen := by unfold maxLen; omega
  have ci := fun w => impl_CountAvoiding q l m w sq
  have cs := fun w => spec_CountAvoiding q l m w sq
  have gb := gB q l m
  have HT := Lib.hid (fun w => impl_FirstAvoiding q l m w sq)
  generalize (countAvR q l m).1 = cn at ci cs gb
  generalize (countAvR q l m).2 = c2 at ci cs gb
  have CI := Lib.hid ci
  have CS := Lib.hid cs
  have GB := Lib.hid gb
  clear ci cs gb
  go_wp2_with fail
  refine (CI.out _).mono ?_
  rintro e x6 ⟨rfl, b⟩
  have B := B.then b
  clear b 
  go_wp2_with fail
  refine (CS.out _).mono ?_
  rintro e x7 ⟨rfl, b⟩
  have B := B.then b
  clear b CI CS
  go_wp2_with fail
  refine (DLongestAvoiding.out _ B).mono ?_
  rintro e x8 ⟨r, wd, rfl, hr, wwd, b⟩
  have B := B.then b
  clear b DLongestAvoiding
  have sr : r.size ≤ maxLen := by unfold maxLen; omega
  have ci := fun w => impl_LongestAvoiding r wd w sr
  have cs := fun w => spec_LongestAvoiding r wd w sr
  have gc := gC r wd
  have HG := Lib.hid (fun n w => impl_FirstAvoiding r wd n w sr)
  generalize (longAvR r wd).1 = lo at ci cs gc
  generalize (longAvR r wd).2 = c3 at ci cs gc
  have CI := Lib.hid ci
  have CS := Lib.hid cs
  have GC := Lib.hid gc
  clear ci cs gc
  go_wp2_with fail
  refine (CI.out _).mono ?_
  rintro e x9 ⟨rfl, b⟩
  have B := B.then b
  clear b 
  go_wp2_with fail
  refine (CS.out _).mono ?_
  rintro e x10 ⟨rfl, b⟩
  have B := B.then b
  clear b CI CS
  go_wp2_with fail
  refine (DZiminWord.out _ B).mono ?_
  rintro e x11 ⟨z, rfl, wz, b⟩
  have B := B.then b
  clear b DZiminWord
  have ci := fun w => impl_ZiminWord z w wz
  have cs := fun w => spec_ZiminWord z w wz
  have gd := gD z
  generalize (zimR z).1 = zt at ci cs gd
  generalize (zimR z).2 = c4 at ci cs gd
  have CI := Lib.hid ci
  have CS := Lib.hid cs
  have GD := Lib.hid gd
  clear ci cs gd
  go_wp2_with fail
  refine (CI.out _).mono ?_
  rintro e x12 ⟨rfl, b⟩
  have B := B.then b
  clear b 
  go_wp2_with fail
  refine (CS.out _).mono ?_
  rintro e x13 ⟨rfl, b⟩
  have B := B.then b
  clear b CI CS
  go_wp2_with fail
  refine (DIsUnavoidable.out _ B).mono ?_
  rintro e x14 ⟨s, rfl, hs, b⟩
  have B := B.then b
  clear b DIsUnavoidable
  have ss : s.size ≤ maxLen := by unfold maxLen; omega
  have ci := fun w => impl_IsUnavoidable s w ss
  have cs := fun w => spec_IsUnavoidable s w ss
  have ge := gE s
  have PI := Lib.hid (fun w => impl_IsPattern s w ss)
  have PS := Lib.hid (fun w => spec_IsPattern s w ss)
  have HZ := Lib.hid (fun (h : hasR (bt (zimL 3)) s = (true, 0)) w => by have q := impl_HasPattern (bt (zimL 3)) s w (by unfold maxLen; rw [bt_size]; decide) ss; rw [h] at q; exact q)
  generalize (unavR s).1 = ub at ci cs ge
  generalize (unavR s).2 = c5 at ci cs ge
  have CI := Lib.hid ci
  have CS := Lib.hid cs
  have GE := Lib.hid ge
  clear ci cs ge
  go_wp2_with fail
  refine (CI.out _).mono ?_
  rintro e x15 ⟨rfl, b⟩
  have B := B.then b
  clear b 
  go_wp2_with fail
  refine (CS.out _).mono ?_
  rintro e x16 ⟨rfl, b⟩
  have B := B.then b
  clear b CI CS
  go_wp2_with fail
  refine (PI.out _).mono ?_
  rintro e x17 ⟨rfl, b⟩
  have B := B.then b
  clear b 
  go_wp2_with fail
  refine (PS.out _).mono ?_
  rintro e x18 ⟨rfl, b⟩
  have B := B.then b
  clear b PI PS
  go_upto_region 30 with fail
  go_cut [177] from 173 to 177 (fun s177 wc => s177 = .bool (c5 == 0 && ub) ∧ Below w.heap.size w wc)
  case first =>
    by_cases hc5 : c5 = 0
    · subst hc5
      cases ub with
      | true =>
        clear GE
        go_wp2_with fail
        go_meet
        case rel => exact ⟨rfl, B⟩
      | false =>
        clear GE
        go_wp2_with fail
        go_meet
        case rel => exact ⟨rfl, B⟩
    · have hcf : (c5 == 0) = false := beq_eq_false_iff_ne.2 hc5
      clear GE
      go_wp2_with fail
      go_meet
      case rel => exact ⟨by rw [hcf]; rfl, B⟩
  case rest => as_aux_lemma =>
    obtain ⟨rfl, B⟩ := hcut
    have gt : (c5 == 0 && ub) = false ∨ ((c5 == 0 && ub) = true ∧ hasR (bt (zimL 3)) s = (true, 0)) := by
      rcases GE.out with h | ⟨h, h1, h2⟩
      · left
        rcases h with h | h
        · rw [beq_eq_false_iff_ne.2 h]; rfl
        · rw [h, Bool.and_false]
      · right
        rw [h, h1]
        exact ⟨rfl, h2⟩
    generalize (c5 == 0 && ub) = tb at gt ⊢
    have GT := Lib.hid gt
    clear gt GE
    go_upto_if 177 with fail
    go_cut [33, 34, 35, 36] from 178 to 197 (fun s33 s34 s35 s36 wc => Below w.heap.size w wc)
    case first =>
      rcases GT.out with h | ⟨h, h2⟩
      · subst h
        clear GT
        go_wp2_with fail
        go_meet
        case rel => exact B
      · subst h
        have z3 := fun w => impl_ZiminWord 3 w (by decide)
        rw [show zimR 3 = (bt (zimL 3), 0) from zimR_ok (n := 3) (by omega) (by omega)] at z3
        have CZ := Lib.hid z3
        have CH := Lib.hid (HZ.out h2)
        clear z3 h2 GT
        generalize bt (zimL 3) = zz at CZ CH HZ
        go_wp2_with fail
        refine (CZ.out _).mono ?_
        rintro e y1 ⟨rfl, b⟩
        have B := B.then b
        clear b
        go_wp2_with fail
        refine (CH.out _).mono ?_
        rintro e y2 ⟨rfl, b⟩
        have B := B.then b
        clear b
        go_wp2_with fail
        go_meet
        case rel => exact B
    case rest => as_aux_lemma =>
      have B := hcut
      clear GT HZ
      go_upto_region 35 with fail
      go_cut [208] from 198 to 208 (fun s208 wc => s208 = .bool false ∧ Below w.heap.size w wc)
      case first =>
        rcases GD.out with h | ⟨h, ⟨h1, h2⟩, h3⟩
        · have hcf : (c4 == 0) = false := beq_eq_false_iff_ne.2 h
          go_wp2_with fail
          go_meet
          case rel => exact ⟨rfl, B⟩
        · subst h
          rcases (show z = 1 ∨ z = 2 ∨ z = 3 ∨ z = 4 ∨ z = 5 by omega) with rfl | rfl | rfl | rfl | rfl
          · have hzs : (zt.size : Int) = 1 := by have e : (2 : Int) ^ (1 : Int).toNat = 2 := rfl; omega
            clear h3
            go_wp2_with fail
            go_meet
            case rel => exact ⟨rfl, B⟩
          · have hzs : (zt.size : Int) = 3 := by have e : (2 : Int) ^ (2 : Int).toNat = 4 := rfl; omega
            clear h3
            go_wp2_with fail
            go_meet
            case rel => exact ⟨rfl, B⟩
          · have hzs : (zt.size : Int) = 7 := by have e : (2 : Int) ^ (3 : Int).toNat = 8 := rfl; omega
            clear h3
            go_wp2_with fail
            go_meet
            case rel => exact ⟨rfl, B⟩
          · have hzs : (zt.size : Int) = 15 := by have e : (2 : Int) ^ (4 : Int).toNat = 16 := rfl; omega
            clear h3
            go_wp2_with fail
            go_meet
            case rel => exact ⟨rfl, B⟩
          · have hzs : (zt.size : Int) = 31 := by have e : (2 : Int) ^ (5 : Int).toNat = 32 := rfl; omega
            clear h3
            go_wp2_with fail
            go_meet
            case rel => exact ⟨rfl, B⟩
      case rest => as_aux_lemma =>
        obtain ⟨rfl, B⟩ := hcut
        clear GD
        go_upto_if 210 with fail
        go_cut [37, 38, 39, 40] from 211 to 231 (fun s37 s38 s39 s40 wc => Below w.heap.size w wc)
        case first =>
          rcases GC.out with h | ⟨h, h1, h2, h3, h4⟩
          · have hcf : (c3 == 0) = false := beq_eq_false_iff_ne.2 h
            go_wp2_with fail
            go_meet
            case rel => exact B
          · subst h
            have g1 := HG.out lo
            have g2 := HG.out (lo + 1)
            rw [h3] at g1
            rw [h4] at g2
            generalize (firstAvR r wd lo).1 = e1 at g1
            generalize (firstAvR r wd (lo + 1)).1 = e2 at g2
            have CA := Lib.hid g1
            have CB := Lib.hid g2
            clear g1 g2 h3 h4 GC HG
            have hwr : IntKind.i64.wrap (lo + 1) = lo + 1 := IntWalk.i64_in _ (by omega)
            go_wp2_with fail
            refine (CA.out _).mono ?_
            rintro e y1 ⟨rfl, b⟩
            have B := B.then b
            clear b
            go_wp2_with fail
            refine (CB.out _).mono ?_
            rintro e y2 ⟨rfl, b⟩
            have B := B.then b
            clear b
            go_wp2_with fail
            go_meet
            case rel => exact B
        case rest => as_aux_lemma =>
          have B := hcut
          clear GC HG
          go_upto_if 233 with fail
          go_cut [41, 42] from 234 to 245 (fun s41 s42 wc => Below w.heap.size w wc)
          case first =>
            rcases GB.out with h | ⟨h, hh⟩
            · have hcf : (c2 == 0) = false := beq_eq_false_iff_ne.2 h
              go_wp2_with fail
              go_meet
              case rel => exact B
            · subst h
              have g1 := HT.out
              clear GB
              rcases hh with ⟨h1, h2⟩ | ⟨h1, h2⟩
              · rw [h2] at g1
                generalize (firstAvR q l m).1 = e1 at g1
                have CA := Lib.hid g1
                have hd : decide (0 < cn) = true := decide_eq_true h1
                clear g1 h2 HT
                go_wp2_with fail
                refine (CA.out _).mono ?_
                rintro e y1 ⟨rfl, b⟩
                have B := B.then b
                clear b
                go_wp2_with fail
                go_meet
                case rel => exact B
              · have hcf : ((firstAvR q l m).2 == 0) = false := beq_eq_false_iff_ne.2 h2
                generalize (firstAvR q l m).2 = e2 at g1 hcf h2
                generalize (firstAvR q l m).1 = e1 at g1
                have CA := Lib.hid g1
                have hd : decide (0 < cn) = false := decide_eq_false (by omega)
                clear g1 HT
                go_wp2_with fail
                refine (CA.out _).mono ?_
                rintro e y1 ⟨rfl, b⟩
                have B := B.then b
                clear b
                go_wp2_with fail
                go_meet
                case rel => exact B
          case rest => as_aux_lemma =>
            have B := hcut
            clear GB HT
            rcases GA.out with ⟨h, h1⟩ | ⟨h, h1, h2, h3⟩
            · subst h1
              have hcf : (c1 == 0) = false := beq_eq_false_iff_ne.2 h
              go_wp2_with fail
              go_ret
              exact ⟨rfl, B⟩
            · subst h h2
              have g1 := HF.out f (by unfold maxLen; omega)
              rw [h1] at g1
              have CA := Lib.hid g1
              clear g1 h1 GA HF
              go_wp2_with fail
              refine (CA.out _).mono ?_
              rintro e y1 ⟨rfl, b⟩
              have B := B.then b
              clear b
              go_wp2_with fail
              go_ret
              exact ⟨rfl, B⟩

theorem own : ownKnob Tryz.prog.godebug = none := by kernel_rfl
theorem laidOut : laidOutB Tryz.prog = true := by kernel_rfl

set_option maxRecDepth 100000 in
theorem lifted (os : Os) (started : os.Started) (H : Type) (enc : TypeId × Value → H) :
    ReturnsInHanded {} Tryz.checked os 3 .any (fun w args => (Rows.fnAvoidingSpec.pre enc Tryz.prog Tryz.f3 Rows.fnAvoidingRow.domain false w args ∧ laidMetH Tryz.prog Rows.fnAvoidingRow.laid w) ∧ sizedMet enc Tryz.prog Tryz.f3 (OpenSpec.ofChange Rows.fnAvoidingSpec) false w args)
      (Rows.fnAvoidingSpec.post enc Tryz.prog Tryz.f3 false true false false) := by
  refine returnsInHanded_of_change_and (C := Tryz.checked) (X := fun w _ => laidMetH Tryz.prog Rows.fnAvoidingRow.laid w) (fun _ _ _ hh h => h.of_heap hh) own started (by kernel_rfl) Tryz.func3
    (ChangeSpec.witness_shaped (enc := enc) (C := Tryz.checked) (os := os) (X := fun w _ => laidMetH Tryz.prog Rows.fnAvoidingRow.laid w) false (World.laidAll Tryz.prog os Rows.fnAvoidingRow.laid) #[.slice none 0 0] 8 (World.laidAll_os _ _ _)
      (World.shaped_of_ZipB (by kernel_rfl) (by kernel_rfl)) (by kernel_rfl) (by kernel_rfl) (by kernel_rfl)
      (by rw [MakeChecks.laidMetH_plain _ _ _ (by kernel_rfl)]; exact laidMet_laidAll _ (by kernel_rfl) (by kernel_rfl))) ?_
  intro W base args ds gs before hval0 hW hcnd _ hL _
  have hval : ∀ (j : Nat) t v, Tryz.f3.params[j]? = some t → args[j]? = some v → Value.okWide Tryz.prog W .any base t v := hval0
  have hW' := hW
  obtain ⟨p, q, hA0, hV, rfl, hfz, hnd⟩ := hW
  have hA : DataW.TrodAll enc Tryz.prog W 0 (fun _ => true) true Tryz.f3.params.toList args.toList ds p := hA0
  rw [Tryz.params3] at hA hval
  obtain ⟨v0, vs0, d0, ds0, p0, q0, hargs, rfl, rfl, h0, r0⟩ := trodAll_cons hA
  obtain ⟨rfl, rfl, rfl⟩ := trodAll_nil r0
  obtain rfl : args = #[v0] := by cases args; simp_all
  obtain ⟨rfl, rfl⟩ := trodVars_none hV
  obtain ⟨a0, len0, cap0, rfl⟩ := okWide_slice Tryz.underlying22 (hval 0 22 v0 rfl rfl)
  have k0 := h0
  have lt0 : ∀ x ∈ p0, x.block < W.heap.size := by obtain ⟨m, hm⟩ := k0; exact DataW.trod_lt m _ _ _ hm
  obtain ⟨z0, w0⟩ : ∃ zs, IsRow .u8 W a0 len0 cap0 zs := by
    obtain ⟨fuel, hf⟩ := h0
    rcases open_ints Tryz.underlying22 Tryz.underlying5 (by kernel_rfl) hf with ⟨hcs, _⟩ | ⟨x, l, c, zs, hcs, _, hl, hm, hz, _, hcell, hwz⟩
    · simp [Value.cells] at hcs
      obtain ⟨rfl, rfl, rfl⟩ := hcs
      exact ⟨[], .inl ⟨rfl, rfl, rfl, rfl⟩⟩
    · simp [Value.cells] at hcs
      obtain ⟨rfl, rfl, rfl⟩ := hcs
      exact ⟨zs, .inr ⟨_, rfl, hl, hm, by simpa using hz, hcell, hwz⟩⟩
  clear hA0 hval0
  refine (walk a0 len0 cap0 z0 W w0).mono fun e W' ⟨he, bel⟩ => ?_
  subst he
  exact ⟨_, rfl, _, _, _, [], _, [], hW', trodAll_mk1 (shut_bool Tryz.underlying4 _), (trodAll_cons_mk (Below.trod laidOut (by kernel_rfl) (of_decide_eq_true (by kernel_rfl)) k0 bel lt0) trodAll_mk0), rfl, bel.frame _, fun h => by cases h⟩

theorem over : Rows.fnAvoidingRow.holds Tryz.pinned (OpenSpec.ofChange Rows.fnAvoidingSpec) :=
  OpenClaim.holds_of_wide 3 Tryz.f3 rfl rfl rfl rfl rfl rfl rfl ⟨rfl, rfl, rfl, rfl, rfl⟩ rfl rfl rfl rfl rfl (by kernel_rfl) Tryz.func3 (by kernel_rfl)
    (of_decide_eq_true (by kernel_rfl)) (by unfold Func.isWrapper; first | (rw [if_pos (by decide +kernel)]; kernel_rfl) | (rw [if_neg (by decide +kernel)]; exact ⟨rfl, rfl⟩))
    (fun os started H enc _ => lifted os started H enc)

theorem proved : Rows.FnAvoidingCardSaid :=
  Claim7.holds_tied_plain_at .later [] [.data, .pinned] true _ _ over (fun _ h => by cases h) (by kernel_rfl) (fun _ h => by cases h) fnAvoiding_row_tie rfl ⟨rfl, rfl⟩ (by kernel_rfl) rfl
    (fun f fn hf hfn => by
      obtain rfl : f = 3 := Option.some.inj ((show Tryz.prog.funcNamed "loop.example/g01371/laws.FnAvoiding" = some 3 by kernel_rfl).symm.trans hf) |>.symm
      obtain rfl : fn = Tryz.f3 := (Option.some.inj (Tryz.func3.symm.trans hfn)).symm
      exact ⟨by kernel_rfl, fun j t ht => by
        have hall : (Tryz.f3.params.toList.all fun u => !Tryz.prog.wantsStandIn u) = true := by kernel_rfl
        have hm : t ∈ Tryz.f3.params.toList := by simpa using Array.mem_of_getElem? ht
        exact (show Tryz.prog.wantsStandIn t = false by simpa using List.all_eq_true.1 hall t hm)⟩)
    (by kernel_rfl)
#print axioms proved
end Go.Proofs.YtfipbnognjepkaaGreatDoor.fnAvoiding
