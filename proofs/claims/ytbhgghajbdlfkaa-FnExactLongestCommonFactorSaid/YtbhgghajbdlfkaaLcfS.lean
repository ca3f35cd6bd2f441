/- The longest factor of two words: the model. -/
import Derived.Test.YtbhgghajbdlfkaaLcfPlain
import Derived.Test.YtbhgghajbdlfkaaWinPlain
import Derived.Test.YtbhgghajbdlfkaaFactorsS
import Derived.Test.YtbhgghajbdlfkaaPlacesS
import Derived.Test.YtbhgghajbdlfkaaHe
import Derived.Deep.LoopGhost
namespace Go.Proofs.Ytbhgghajbdlfkaa
set_option linter.unusedVariables false
set_option linter.unusedSimpArgs false
open Go.RowKit

theorem lc_yes {x u f : ByteArray} {m : Nat} (h : f ∈ facK x m (x.size + 1 - m)) (hp : posOf u f (List.range (u.size + 1 - f.size)) ≠ []) : Common x u f ∧ f.size = m := by
  obtain ⟨i, hi, rfl⟩ := (mem_facK x m f _).1 h
  have hs : (x.extract i (i + m)).size = m := by simp; omega
  generalize hg : x.extract i (i + m) = f at *
  cases hP : posOf u f (List.range (u.size + 1 - f.size)) with
  | nil => exact absurd hP hp
  | cons z r =>
    obtain ⟨p, _, h1, h2⟩ := (mem_posOf u f z).1 (by rw [hP]; simp)
    exact ⟨⟨i, p, by omega, h1, by rw [hs]; exact hg, h2⟩, hs⟩
theorem lc_no {x u f : ByteArray} {m : Nat} (h : Common x u f) (hm : f.size = m) : f ∈ facK x m (x.size + 1 - m) ∧ posOf u f (List.range (u.size + 1 - f.size)) ≠ [] := by
  obtain ⟨i, j, h1, h2, h3, h4⟩ := h
  refine ⟨(mem_facK x m f _).2 ⟨i, by omega, by rw [← hm]; exact h3.symm⟩, fun e => ?_⟩
  have := (mem_posOf u f (j : Int)).2 ⟨j, rfl, h2, h4⟩
  rw [e] at this
  cases this
theorem lc_done {x u : ByteArray} {m q : Nat} (hq : m = q + 1) (h : ∀ f, Common x u f → f.size ≤ m) (k : ∀ j (hj : j < (facK x m (x.size + 1 - m)).length), posOf u ((facK x m (x.size + 1 - m))[j]'hj) (List.range (u.size + 1 - ((facK x m (x.size + 1 - m))[j]'hj).size)) = []) : ∀ f, Common x u f → f.size ≤ q := by
  intro f hf
  have h1 := h f hf
  by_cases e : f.size = m
  · obtain ⟨k1, k2⟩ := lc_no hf e
    obtain ⟨j, hj, hj2⟩ := List.getElem_of_mem k1
    have := k j hj
    rw [hj2] at this
    exact absurd this k2
  · omega
theorem lc_hit {x u : ByteArray} {m i : Nat} (h : ∀ f, Common x u f → f.size ≤ m) (hi : i < (facK x m (x.size + 1 - m)).length) (k : ∀ j (hj : j < (facK x m (x.size + 1 - m)).length), j < i → posOf u ((facK x m (x.size + 1 - m))[j]'hj) (List.range (u.size + 1 - ((facK x m (x.size + 1 - m))[j]'hj).size)) = [])
    (hp : posOf u ((facK x m (x.size + 1 - m))[i]'hi) (List.range (u.size + 1 - ((facK x m (x.size + 1 - m))[i]'hi).size)) ≠ []) : Best x u ((facK x m (x.size + 1 - m))[i]'hi) := by
  obtain ⟨hc, hs⟩ := lc_yes (List.getElem_mem hi) hp
  refine ⟨hc, fun g hg => ?_⟩
  apply Bool.eq_false_iff.2
  intro hb
  rcases (better_iff _ _).1 hb with q | ⟨q, q2⟩
  · have := h g hg; omega
  · obtain ⟨k1, k2⟩ := lc_no hg (q.trans hs)
    obtain ⟨j, hj, hj2⟩ := List.getElem_of_mem k1
    rcases Nat.lt_trichotomy j i with e | e | e
    · have := k j hj e
      rw [hj2] at this
      exact absurd this k2
    · subst e
      rw [hj2] at q2
      exact wlt_irrefl _ q2
    · have := List.pairwise_iff_getElem.1 (facK_asc x m (x.size + 1 - m)) i j hi hj e
      rw [hj2] at this
      exact wlt_irrefl _ (wlt_trans q2 this)

set_option maxRecDepth 100000 in
set_option maxHeartbeats 2000000 in
theorem spec_LongestCommonFactor_ok (x u : ByteArray) (w : World) (h : IsW x ∧ IsW u) :
    Calls Try.prog 46 #[.string x, .string u] w fun e w' => e = .returned (.tuple #[.string (bestW x u (x.size + 1)), .int .i64 0]) ∧ Below w.heap.size w w' := by
  have hx := h.1.size
  have hu := h.2.size
  have HF := Lib.hid fun (m : Nat) w (hm : m ≤ 61) => l01Factors_61 x m w hx hm
  have HPL := Lib.hid fun (f : ByteArray) w (hf : f.size ≤ 60) => l01Places_any u f w hu hf
  have HBB := Lib.hid (bestW_best x u)
  generalize bestW x u (x.size + 1) = R at *
  have HC0 : Hid (∀ f, Common x u f → f.size ≤ min x.size u.size) := Lib.hid fun f ⟨i, j, h1, h2, _⟩ => by omega
  have H := Lib.hid h
  clear h
  go_enter Try.func46, Try.ntmps46
  go_wp2_with fail
  refine (l01Is_yes x _ H.out.1).mono ?_
  rintro e w1 ⟨rfl, b1⟩
  go_wp2_with fail
  refine (l01Is_yes u _ H.out.2).mono ?_
  rintro e w2 ⟨rfl, b2⟩
  have B2 := b1.then b2
  clear b1 b2
  go_wp2
  go_loopg [6] (min x.size u.size) (fun gg s6 wr => gg ≤ min x.size u.size ∧ s6 = .int .i64 (gg : Int) ∧ Hid (∀ f, Common x u f → f.size ≤ gg) ∧ Below w.heap.size w wr)
  case atStart => exact ⟨Nat.le_refl _, by simp; omega, HC0, B2⟩
  case round =>
    clear HC0 B2
    obtain ⟨hle, rfl, hC, hB⟩ := hrel
    cases gk with
    | zero =>
      have hR : R = ⟨#[]⟩ := by
        have := hC.out R HBB.out.1
        exact bytes_extL (by have h2 : R.data.toList.length = 0 := by (have : R.data.toList.length = R.size := rfl); omega
                             rw [List.eq_nil_of_length_eq_zero h2])
      subst hR
      go_wp2
      go_ret2
      exact ⟨rfl, hB⟩
    | succ q =>
      obtain ⟨m, hm⟩ : ∃ m, m = q + 1 := ⟨_, rfl⟩
      rw [← hm] at hC hle ⊢
      have hm0 : (0 : Int) < (m : Int) := by omega
      have HM := Lib.hid hm
      have HLE := Lib.hid hle
      have hm61 : m ≤ 60 := by omega
      clear hm hle
      go_wp2_with fail
      refine (HF.out m _ (by omega)).mono ?_
      rintro e w3 ⟨v3, rfl, o3, b3⟩
      have hll := facK_len x m (x.size + 1 - m)
      have HDN : Hid _ := Lib.hid (lc_done (x := x) (u := u) HM.out hC.out)
      have HHT : Hid _ := Lib.hid fun i hi => lc_hit (x := x) (u := u) (m := m) (i := i) hC.out hi
      have HSZ : Hid (∀ i (hi : i < (facK x m (x.size + 1 - m)).length), ((facK x m (x.size + 1 - m))[i]'hi).size ≤ 60) := Lib.hid fun i hi => by
        obtain ⟨p, hp, e⟩ := (mem_facK x m _ _).1 (List.getElem_mem hi)
        rw [e]; simp; omega
      generalize facK x m (x.size + 1 - m) = L at *
      obtain ⟨ad, cap, rfl, k3⟩ := o3.lookH
      have K3 := Lib.hid k3
      have B3 := hB.then b3
      clear o3 k3 b3 hB hC
      obtain ⟨wp, hwp⟩ : ∃ wp : World, wp = wr := ⟨_, rfl⟩
      clear hwp wr
      go_wp2
      go_loopg [8] L.length (fun gg s8 wr => ∃ i : Nat, i + gg = L.length ∧ s8 = .int .i64 (i : Int) ∧ Hid (∀ j (hj : j < L.length), j < i → posOf u (L[j]'hj) (List.range (u.size + 1 - (L[j]'hj).size)) = []) ∧ Below w.heap.size w wr ∧ Below w3.heap.size w3 wr)
      case atStart => exact ⟨0, by omega, rfl, Lib.hid fun j _ h => by omega, B3, Below.refl _ _⟩
      case round =>
        clear B3
        obtain ⟨i, hi, rfl, hno, hB, hB3⟩ := hrel
        have HI := Lib.hid hi
        by_cases hp : i < L.length
        · obtain ⟨gi, rfl⟩ : ∃ g, gk = g + 1 := ⟨gk - 1, by omega⟩
          have hpi : (i : Int) < (L.length : Int) := by omega
          obtain ⟨g3, rfl, q3, h3, r3⟩ := K3.out i hp
          have ci := (bcell hB3).1 g3 i q3 |>.trans r3
          have R3 := Lib.hid r3
          have HPS := Lib.hid (HSZ.out i hp)
          have HH := Lib.hid (HHT.out i hp hno.out)
          have HNX : Hid (posOf u (L[i]'hp) (List.range (u.size + 1 - (L[i]'hp).size)) = [] → ∀ j (hj : j < L.length), j < i + 1 → posOf u (L[j]'hj) (List.range (u.size + 1 - (L[j]'hj).size)) = []) := Lib.hid fun e j hj h => by
            by_cases e2 : j = i
            · subst e2; exact e
            · exact hno.out j hj (by omega)
          have HP := Lib.hid fun w => HPL.out (L[i]'hp) w HPS.out
          generalize L[i]'hp = f at *
          generalize posOf u f (List.range (u.size + 1 - f.size)) = P at *
          clear hi r3 hno
          by_cases hP : P = []
          · have HN2 := Lib.hid (HNX.out hP)
            subst hP
            go_wp2_with fail
            refine (HP.out _).mono ?_
            rintro e w4 ⟨v4, rfl, o4, b4⟩
            obtain ⟨aI, cI, rfl⟩ := OwnI.empty o4
            have hB4 := hB.then b4
            have hB34 := hB3.then b4
            clear o4 b4
            go_wp2
            go_roundg gi
            case measure => omega
            case rel => exact ⟨i + 1, by have := HI.out; omega, by go_num, HN2, hB4, hB34⟩
          · have hR : R = f := best_unique HBB.out (HH.out hP)
            have hn : 0 < P.length := List.length_pos_iff.2 hP
            subst hR
            go_wp2_with fail
            refine (HP.out _).mono ?_
            rintro e w4 ⟨v4, rfl, o4, b4⟩
            obtain ⟨g4, c4, rfl, _⟩ := OwnI.row o4 hn
            have hB4 := hB.then b4
            have ci4 := (bcell (hB3.then b4)).1 g3 i q3 |>.trans R3.out
            clear ci
            go_wp2
            go_ret2
            exact ⟨rfl, hB4⟩
        · obtain rfl : i = L.length := by omega
          have hpi : ¬ (L.length : Int) < (L.length : Int) := by omega
          have HX2 := Lib.hid (HDN.out fun j hj => hno.out j hj hj)
          clear hi hno
          go_wp2
          go_roundg q
          case measure => omega
          case rel => exact ⟨by have := HM.out; have := HLE.out; omega, by have := HM.out; congr 1; omega, HX2, hB⟩

set_option maxRecDepth 100000 in
theorem spec_LongestCommonFactor (x u : ByteArray) (w : World) (sx : x.size ≤ maxLen) (su : u.size ≤ maxLen) :
    Calls Try.prog 46 #[.string x, .string u] w fun e w' => e = .returned (.tuple #[.string (lcfR x u).1, .int .i64 (lcfR x u).2]) ∧ Below w.heap.size w w' := by
  by_cases hx : IsW x
  · by_cases hu : IsW u
    · rw [lcfR_ok ⟨hx, hu⟩]
      exact spec_LongestCommonFactor_ok x u w ⟨hx, hu⟩
    · rw [lcfR_bad (fun h => hu h.2)]
      have HX := Lib.hid hx
      have HU := Lib.hid hu
      clear hx hu
      go_enter Try.func46, Try.ntmps46
      go_wp2_with fail
      refine (l01Is_yes x _ HX.out).mono ?_
      rintro e w1 ⟨rfl, b1⟩
      go_wp2_with fail
      refine (l01Is_no u _ su HU.out).mono ?_
      rintro e w2 ⟨rfl, b2⟩
      go_wp2_with fail
      go_ret2
      exact ⟨rfl, b1.then b2⟩
  · rw [lcfR_bad (fun h => hx h.1)]
    have HX := Lib.hid hx
    clear hx
    go_enter Try.func46, Try.ntmps46
    go_wp2_with fail
    refine (l01Is_no x _ sx HX.out).mono ?_
    rintro e w1 ⟨rfl, b1⟩
    go_wp2_with fail
    go_ret2
    exact ⟨rfl, b1⟩

end Go.Proofs.Ytbhgghajbdlfkaa
