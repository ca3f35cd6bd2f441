/- Common factors and the draws of chapter 5, in one text. -/
import Derived.Test.YtbhgghajbdlfkabLcfPlain
import Derived.Test.YtbhgghajbdlfkabWinPlain
import Derived.Test.YtbhgghajbdlfkabFactorsS
import Derived.Test.YtbhgghajbdlfkabPlacesS
import Derived.Test.YtbhgghajbdlfkabHe
import Derived.Deep.LoopGhost
import Derived.Test.YtbhgghajbdlfkabInts
import Derived.Test.YtbhgghajbdlfkabRows2
import Derived.Test.YtbhgghajbdlfkabPlacesPlain
import Derived.Deep.QuietTactic
import Derived.BigQuiet
import Derived.StillTailTactics
import Derived.IntWalk
import Derived.Below
import Derived.OneCell
import Derived.Test.YtbhgghajbdlfkabFactor
import Derived.Test.YtbhgghajbdlfkabPut
import Derived.Test.YtbhgghajbdlfkabShelf
import Derived.WalkKit
import Derived.Test.YtbhgghajbdlfkabStrs
import Derived.RegionTactic
import Derived.Deep.RegionWith
import Derived.Outline
import Derived.Test.YtbhgghajbdlfkabComPlain
import Derived.Lib.RuneBytes
import Derived.Lib.UnsafeStr
import Derived.Test.YtbhgghajbdlfkabOwn
import Derived.Test.YtbhgghajbdlfkabPers
import Derived.BigRegion
import Derived.RangeFuncBox
import Derived.Lib.OthersKept
import Derived.Test.YtbhgghajbdlfkabNumbers
import Derived.WalkSpells
import Derived.Deep.RegionHeld3
import Derived.Test.YtbhgghajbdlfkabTurn

/-! ### LcfS -/
namespace Go.Proofs.Ytbhgghajbdlfkab
set_option linter.unusedVariables false
set_option linter.unusedSimpArgs false
open Go.RowKit

theorem lc_yes {x u f : ByteArray} {m : Nat} (h : f ∈ facK x m (x.size + 1 - m)) (hp : posOf u f (List.range (u.size + 1 - f.size)) ≠ []) : Common x u f ∧ f.size = m := by
  obtain ⟨i, hi, rfl⟩ := (mem_facK x m f _).1 h
  have hs : (x.extract i (i + m)).size = m := by simp; omega
  generalize hg : x.extract i (i + m) = f at *
  cases hP : posOf u f (List.range (u.size + 1 - f.size)) with
  | nil => exact absurd hP hp
  | cons z r =>
    obtain ⟨p, _, h1, h2⟩ := (mem_posOf u f z).1 (by rw [hP]; simp)
    exact ⟨⟨i, p, by omega, h1, by rw [hs]; exact hg, h2⟩, hs⟩
theorem lc_no {x u f : ByteArray} {m : Nat} (h : Common x u f) (hm : f.size = m) : f ∈ facK x m (x.size + 1 - m) ∧ posOf u f (List.range (u.size + 1 - f.size)) ≠ [] := by
  obtain ⟨i, j, h1, h2, h3, h4⟩ := h
  refine ⟨(mem_facK x m f _).2 ⟨i, by omega, by rw [← hm]; exact h3.symm⟩, fun e => ?_⟩
  have := (mem_posOf u f (j : Int)).2 ⟨j, rfl, h2, h4⟩
  rw [e] at this
  cases this
theorem lc_done {x u : ByteArray} {m q : Nat} (hq : m = q + 1) (h : ∀ f, Common x u f → f.size ≤ m) (k : ∀ j (hj : j < (facK x m (x.size + 1 - m)).length), posOf u ((facK x m (x.size + 1 - m))[j]'hj) (List.range (u.size + 1 - ((facK x m (x.size + 1 - m))[j]'hj).size)) = []) : ∀ f, Common x u f → f.size ≤ q := by
  intro f hf
  have h1 := h f hf
  by_cases e : f.size = m
  · obtain ⟨k1, k2⟩ := lc_no hf e
    obtain ⟨j, hj, hj2⟩ := List.getElem_of_mem k1
    have := k j hj
    rw [hj2] at this
    exact absurd this k2
  · omega
theorem lc_hit {x u : ByteArray} {m i : Nat} (h : ∀ f, Common x u f → f.size ≤ m) (hi : i < (facK x m (x.size + 1 - m)).length) (k : ∀ j (hj : j < (facK x m (x.size + 1 - m)).length), j < i → posOf u ((facK x m (x.size + 1 - m))[j]'hj) (List.range (u.size + 1 - ((facK x m (x.size + 1 - m))[j]'hj).size)) = [])
    (hp : posOf u ((facK x m (x.size + 1 - m))[i]'hi) (List.range (u.size + 1 - ((facK x m (x.size + 1 - m))[i]'hi).size)) ≠ []) : Best x u ((facK x m (x.size + 1 - m))[i]'hi) := by
  obtain ⟨hc, hs⟩ := lc_yes (List.getElem_mem hi) hp
  refine ⟨hc, fun g hg => ?_⟩
  apply Bool.eq_false_iff.2
  intro hb
  rcases (better_iff _ _).1 hb with q | ⟨q, q2⟩
  · have := h g hg; omega
  · obtain ⟨k1, k2⟩ := lc_no hg (q.trans hs)
    obtain ⟨j, hj, hj2⟩ := List.getElem_of_mem k1
    rcases Nat.lt_trichotomy j i with e | e | e
    · have := k j hj e
      rw [hj2] at this
      exact absurd this k2
    · subst e
      rw [hj2] at q2
      exact wlt_irrefl _ q2
    · have := List.pairwise_iff_getElem.1 (facK_asc x m (x.size + 1 - m)) i j hi hj e
      rw [hj2] at this
      exact wlt_irrefl _ (wlt_trans q2 this)

set_option maxRecDepth 100000 in
set_option maxHeartbeats 2000000 in
theorem spec_LongestCommonFactor_ok (x u : ByteArray) (w : World) (h : IsW x ∧ IsW u) :
    Calls Try.prog 45 #[.string x, .string u] w fun e w' => e = .returned (.tuple #[.string (bestW x u (x.size + 1)), .int .i64 0]) ∧ Below w.heap.size w w' := by
  have hx := h.1.size
  have hu := h.2.size
  have HF := Lib.hid fun (m : Nat) w (hm : m ≤ 61) => l01Factors_61 x m w hx hm
  have HPL := Lib.hid fun (f : ByteArray) w (hf : f.size ≤ 60) => l01Places_any u f w hu hf
  have HBB := Lib.hid (bestW_best x u)
  generalize bestW x u (x.size + 1) = R at *
  have HC0 : Hid (∀ f, Common x u f → f.size ≤ min x.size u.size) := Lib.hid fun f ⟨i, j, h1, h2, _⟩ => by omega
  have H := Lib.hid h
  clear h
  go_enter Try.func45, Try.ntmps45
  go_wp2_with fail
  refine (l01Is_yes x _ H.out.1).mono ?_
  rintro e w1 ⟨rfl, b1⟩
  go_wp2_with fail
  refine (l01Is_yes u _ H.out.2).mono ?_
  rintro e w2 ⟨rfl, b2⟩
  have B2 := b1.then b2
  clear b1 b2
  go_wp2
  go_loopg [6] (min x.size u.size) (fun gg s6 wr => gg ≤ min x.size u.size ∧ s6 = .int .i64 (gg : Int) ∧ Hid (∀ f, Common x u f → f.size ≤ gg) ∧ Below w.heap.size w wr)
  case atStart => exact ⟨Nat.le_refl _, by simp; omega, HC0, B2⟩
  case round =>
    clear HC0 B2
    obtain ⟨hle, rfl, hC, hB⟩ := hrel
    cases gk with
    | zero =>
      have hR : R = ⟨#[]⟩ := by
        have := hC.out R HBB.out.1
        exact bytes_extL (by have h2 : R.data.toList.length = 0 := by (have : R.data.toList.length = R.size := rfl); omega
                             rw [List.eq_nil_of_length_eq_zero h2])
      subst hR
      go_wp2
      go_ret2
      exact ⟨rfl, hB⟩
    | succ q =>
      obtain ⟨m, hm⟩ : ∃ m, m = q + 1 := ⟨_, rfl⟩
      rw [← hm] at hC hle ⊢
      have hm0 : (0 : Int) < (m : Int) := by omega
      have HM := Lib.hid hm
      have HLE := Lib.hid hle
      have hm61 : m ≤ 60 := by omega
      clear hm hle
      go_wp2_with fail
      refine (HF.out m _ (by omega)).mono ?_
      rintro e w3 ⟨v3, rfl, o3, b3⟩
      have hll := facK_len x m (x.size + 1 - m)
      have HDN : Hid _ := Lib.hid (lc_done (x := x) (u := u) HM.out hC.out)
      have HHT : Hid _ := Lib.hid fun i hi => lc_hit (x := x) (u := u) (m := m) (i := i) hC.out hi
      have HSZ : Hid (∀ i (hi : i < (facK x m (x.size + 1 - m)).length), ((facK x m (x.size + 1 - m))[i]'hi).size ≤ 60) := Lib.hid fun i hi => by
        obtain ⟨p, hp, e⟩ := (mem_facK x m _ _).1 (List.getElem_mem hi)
        rw [e]; simp; omega
      generalize facK x m (x.size + 1 - m) = L at *
      obtain ⟨ad, cap, rfl, k3⟩ := o3.lookH
      have K3 := Lib.hid k3
      have B3 := hB.then b3
      clear o3 k3 b3 hB hC
      obtain ⟨wp, hwp⟩ : ∃ wp : World, wp = wr := ⟨_, rfl⟩
      clear hwp wr
      go_wp2
      go_loopg [8] L.length (fun gg s8 wr => ∃ i : Nat, i + gg = L.length ∧ s8 = .int .i64 (i : Int) ∧ Hid (∀ j (hj : j < L.length), j < i → posOf u (L[j]'hj) (List.range (u.size + 1 - (L[j]'hj).size)) = []) ∧ Below w.heap.size w wr ∧ Below w3.heap.size w3 wr)
      case atStart => exact ⟨0, by omega, rfl, Lib.hid fun j _ h => by omega, B3, Below.refl _ _⟩
      case round =>
        clear B3
        obtain ⟨i, hi, rfl, hno, hB, hB3⟩ := hrel
        have HI := Lib.hid hi
        by_cases hp : i < L.length
        · obtain ⟨gi, rfl⟩ : ∃ g, gk = g + 1 := ⟨gk - 1, by omega⟩
          have hpi : (i : Int) < (L.length : Int) := by omega
          obtain ⟨g3, rfl, q3, h3, r3⟩ := K3.out i hp
          have ci := (bcell hB3).1 g3 i q3 |>.trans r3
          have R3 := Lib.hid r3
          have HPS := Lib.hid (HSZ.out i hp)
          have HH := Lib.hid (HHT.out i hp hno.out)
          have HNX : Hid (posOf u (L[i]'hp) (List.range (u.size + 1 - (L[i]'hp).size)) = [] → ∀ j (hj : j < L.length), j < i + 1 → posOf u (L[j]'hj) (List.range (u.size + 1 - (L[j]'hj).size)) = []) := Lib.hid fun e j hj h => by
            by_cases e2 : j = i
            · subst e2; exact e
            · exact hno.out j hj (by omega)
          have HP := Lib.hid fun w => HPL.out (L[i]'hp) w HPS.out
          generalize L[i]'hp = f at *
          generalize posOf u f (List.range (u.size + 1 - f.size)) = P at *
          clear hi r3 hno
          by_cases hP : P = []
          · have HN2 := Lib.hid (HNX.out hP)
            subst hP
            go_wp2_with fail
            refine (HP.out _).mono ?_
            rintro e w4 ⟨v4, rfl, o4, b4⟩
            obtain ⟨aI, cI, rfl⟩ := OwnI.empty o4
            have hB4 := hB.then b4
            have hB34 := hB3.then b4
            clear o4 b4
            go_wp2
            go_roundg gi
            case measure => omega
            case rel => exact ⟨i + 1, by have := HI.out; omega, by go_num, HN2, hB4, hB34⟩
          · have hR : R = f := best_unique HBB.out (HH.out hP)
            have hn : 0 < P.length := List.length_pos_iff.2 hP
            subst hR
            go_wp2_with fail
            refine (HP.out _).mono ?_
            rintro e w4 ⟨v4, rfl, o4, b4⟩
            obtain ⟨g4, c4, rfl, _⟩ := OwnI.row o4 hn
            have hB4 := hB.then b4
            have ci4 := (bcell (hB3.then b4)).1 g3 i q3 |>.trans R3.out
            clear ci
            go_wp2
            go_ret2
            exact ⟨rfl, hB4⟩
        · obtain rfl : i = L.length := by omega
          have hpi : ¬ (L.length : Int) < (L.length : Int) := by omega
          have HX2 := Lib.hid (HDN.out fun j hj => hno.out j hj hj)
          clear hi hno
          go_wp2
          go_roundg q
          case measure => omega
          case rel => exact ⟨by have := HM.out; have := HLE.out; omega, by have := HM.out; congr 1; omega, HX2, hB⟩

set_option maxRecDepth 100000 in
theorem spec_LongestCommonFactor (x u : ByteArray) (w : World) (sx : x.size ≤ maxLen) (su : u.size ≤ maxLen) :
    Calls Try.prog 45 #[.string x, .string u] w fun e w' => e = .returned (.tuple #[.string (lcfR x u).1, .int .i64 (lcfR x u).2]) ∧ Below w.heap.size w w' := by
  by_cases hx : IsW x
  · by_cases hu : IsW u
    · rw [lcfR_ok ⟨hx, hu⟩]
      exact spec_LongestCommonFactor_ok x u w ⟨hx, hu⟩
    · rw [lcfR_bad (fun h => hu h.2)]
      have HX := Lib.hid hx
      have HU := Lib.hid hu
      clear hx hu
      go_enter Try.func45, Try.ntmps45
      go_wp2_with fail
      refine (l01Is_yes x _ HX.out).mono ?_
      rintro e w1 ⟨rfl, b1⟩
      go_wp2_with fail
      refine (l01Is_no u _ su HU.out).mono ?_
      rintro e w2 ⟨rfl, b2⟩
      go_wp2_with fail
      go_ret2
      exact ⟨rfl, b1.then b2⟩
  · rw [lcfR_bad (fun h => hx h.1)]
    have HX := Lib.hid hx
    clear hx
    go_enter Try.func45, Try.ntmps45
    go_wp2_with fail
    refine (l01Is_no x _ sx HX.out).mono ?_
    rintro e w1 ⟨rfl, b1⟩
    go_wp2_with fail
    go_ret2
    exact ⟨rfl, b1⟩

end Go.Proofs.Ytbhgghajbdlfkab

/-! ### Lcf -/
namespace Go.Proofs.Ytbhgghajbdlfkab
set_option linter.unusedVariables false
set_option linter.unusedSimpArgs false
open Go.RowKit

theorem slice_three (W : World) (g T lo wd : Nat) (h : lo + wd ≤ T) (hT : T ≤ 10000) (hw : 0 < wd) :
    (Instr.slice 41 (.slice (some ⟨g, 0, none⟩) T T) (some (.int .i64 (lo : Int))) (some (.int .i64 ((lo : Int) + (wd : Int)))) (some (.int .i64 ((lo : Int) + (wd : Int))))).run Try.prog W = .ok (.slice (some ⟨g, lo, none⟩) wd wd) W := by
  have e1 : ((lo : Int) + (wd : Int)).toNat = lo + wd := by omega
  have hz := Try.sizeOf2 W
  simp [Instr.slice, run_underlying Try.underlying41, Instr.sliceBounds, run_sliceBound, sliced, e1, Addr.add, show (0 : Int) ≤ (lo : Int) + (wd : Int) by omega, show (lo : Int) + (wd : Int) ≤ (T : Int) by omega]
  rw [run_sliceBound W .i64 (lo : Int) (lo + wd) _ (by omega) (by omega)]
  simp only [Result.andThen, Int.toNat_natCast]
  rw [if_neg (by omega), Nat.add_sub_cancel_left]
  by_cases e : lo = 0
  · subst e; rfl
  · rw [if_neg e]

theorem slice_hi (W : World) (g T lo hi wd : Nat) (e : hi = lo + wd) (h : hi ≤ T) (hT : T ≤ 10000) (hw : 0 < wd) :
    (Instr.slice 41 (.slice (some ⟨g, 0, none⟩) T T) (some (.int .i64 (lo : Int))) (some (.int .i64 (hi : Int))) (some (.int .i64 (hi : Int)))).run Try.prog W = .ok (.slice (some ⟨g, lo, none⟩) wd wd) W := by
  subst e
  have := slice_three W g T lo wd h hT hw
  rw [show ((lo + wd : Nat) : Int) = (lo : Int) + (wd : Int) by omega]
  exact this
theorem index_five (x : ByteArray) (n : Nat) (hn : n < x.size) (W : World) :
    (Instr.index 9 (.string x) (.int .i64 (n : Int))).run Try.prog W = .ok (.int .u8 ((x[n]'hn).toNat : Int)) W := by
  rw [run_index_string (h := Try.underlying9), dif_pos ⟨by omega, by omega⟩]
  rfl

/-- The table: rows from k on, and of the row ahead of them the first j places, hold their lengths. -/
def fT (x u : ByteArray) (k j p : Nat) : Nat := if k ≤ p / (u.size + 1) ∨ (p / (u.size + 1) + 1 = k ∧ p % (u.size + 1) < j) then lce x u (p / (u.size + 1)) (p % (u.size + 1)) else 0
def tabL (x u : ByteArray) (k j : Nat) : List Int := (List.range ((x.size + 1) * (u.size + 1))).map fun p => (fT x u k j p : Int)
theorem fT_start (x u : ByteArray) (p : Nat) : fT x u x.size 0 p = 0 := by
  unfold fT
  split
  · rename_i h
    rcases h with h | ⟨_, h⟩
    · exact lce_end x u _ _ (.inl h)
    · omega
  · rfl
theorem fT_done (x u : ByteArray) (p : Nat) : fT x u 0 0 p = lce x u (p / (u.size + 1)) (p % (u.size + 1)) := by unfold fT; rw [if_pos (.inl (Nat.zero_le _))]
theorem fT_row (x u : ByteArray) (k p : Nat) : fT x u (k + 1) u.size p = fT x u k 0 p := by
  unfold fT
  have hm := Nat.mod_lt p (show 0 < u.size + 1 by omega)
  by_cases h1 : k + 1 ≤ p / (u.size + 1)
  · rw [if_pos (.inl h1), if_pos (.inl (by omega))]
  · by_cases h2 : p / (u.size + 1) = k
    · rw [if_pos (show k ≤ p / (u.size + 1) ∨ _ from .inl (by omega))]
      by_cases h3 : p % (u.size + 1) < u.size
      · rw [if_pos (.inr ⟨by omega, h3⟩)]
      · rw [if_neg (by omega), lce_end x u _ _ (.inr (by omega))]
    · rw [if_neg (by omega), if_neg (by omega)]
theorem flat_div (u : ByteArray) (i j : Nat) (hj : j ≤ u.size) : (i * (u.size + 1) + j) / (u.size + 1) = i ∧ (i * (u.size + 1) + j) % (u.size + 1) = j := by
  constructor
  · rw [Nat.add_comm, Nat.add_mul_div_right _ _ (by omega), Nat.div_eq_of_lt (by omega)]; omega
  · rw [Nat.add_comm, Nat.add_mul_mod_self_right, Nat.mod_eq_of_lt (by omega)]
theorem flat_inj (u : ByteArray) (p i j : Nat) (h : p / (u.size + 1) = i) (k : p % (u.size + 1) = j) : p = i * (u.size + 1) + j := by
  have := Nat.div_add_mod p (u.size + 1)
  rw [h, k, Nat.mul_comm] at this
  omega
theorem fT_step (x u : ByteArray) (k j p : Nat) (hj : j < u.size) : fT x u (k + 1) (j + 1) p = if p = k * (u.size + 1) + j then lce x u k j else fT x u (k + 1) j p := by
  by_cases e : p = k * (u.size + 1) + j
  · rw [if_pos e]
    obtain ⟨h1, h2⟩ := flat_div u k j (by omega)
    rw [← e] at h1 h2
    unfold fT
    rw [h1, h2, if_pos (.inr ⟨rfl, by omega⟩)]
  · rw [if_neg e]
    unfold fT
    by_cases h1 : k + 1 ≤ p / (u.size + 1)
    · rw [if_pos (.inl h1), if_pos (.inl h1)]
    · by_cases h2 : p / (u.size + 1) + 1 = k + 1
      · have h3 : p % (u.size + 1) ≠ j := fun h => e (flat_inj u p k j (by omega) h)
        by_cases h4 : p % (u.size + 1) < j
        · rw [if_pos (.inr ⟨h2, by omega⟩), if_pos (.inr ⟨h2, h4⟩)]
        · rw [if_neg (by omega), if_neg (by omega)]
      · rw [if_neg (by omega), if_neg (by omega)]
theorem tabL_len (x u : ByteArray) (k j : Nat) : (tabL x u k j).length = (x.size + 1) * (u.size + 1) := by simp [tabL]
theorem tabL_get (x u : ByteArray) (k j p : Nat) (h : p < (x.size + 1) * (u.size + 1)) : (tabL x u k j)[p]? = some (fT x u k j p : Int) := by simp [tabL, h]
theorem tabL_congr {x u : ByteArray} {k j k' j' : Nat} (h : ∀ p, fT x u k j p = fT x u k' j' p) : tabL x u k j = tabL x u k' j' := by unfold tabL; simp [h]
theorem tabL_set (x u : ByteArray) (k j : Nat) (hj : j < u.size) : ((tabL x u (k + 1) j).map (Value.int .i64)).set (k * (u.size + 1) + j) (.int .i64 (lce x u k j : Int)) = (tabL x u (k + 1) (j + 1)).map (Value.int .i64) := by
  apply List.ext_getElem?
  intro p
  rw [List.getElem?_set]
  by_cases hp : p < (x.size + 1) * (u.size + 1)
  · rw [List.getElem?_map, List.getElem?_map, tabL_get x u (k + 1) (j + 1) p hp, tabL_get x u (k + 1) j p hp, fT_step x u k j p hj]
    by_cases e : k * (u.size + 1) + j = p
    · subst e
      rw [if_pos rfl, if_pos rfl, if_pos (by rw [List.length_map, tabL_len]; exact hp)]
      rfl
    · rw [if_neg e, if_neg (fun e2 => e e2.symm)]
  · rw [List.getElem?_eq_none (l := (tabL x u (k + 1) j).map _) (by rw [List.length_map, tabL_len]; omega), List.getElem?_eq_none (l := (tabL x u (k + 1) (j + 1)).map _) (by rw [List.length_map, tabL_len]; omega)]
    split
    · split
      · rename_i h; rw [List.length_map, tabL_len] at h; omega
      · rfl
    · rfl
theorem tabL_zero (x u : ByteArray) : (tabL x u x.size 0).map (Value.int .i64) = List.replicate ((x.size + 1) * (u.size + 1)) (.int .i64 0) := by
  apply List.ext_getElem?
  intro p
  by_cases hp : p < (x.size + 1) * (u.size + 1)
  · rw [List.getElem?_map, tabL_get x u _ _ p hp, fT_start, List.getElem?_replicate, if_pos hp]; rfl
  · rw [List.getElem?_eq_none (by rw [List.length_map, tabL_len]; omega), List.getElem?_replicate, if_neg hp]
/-- The rows: slices of the one table. -/
def rowsT (g wd n1 k : Nat) : List Value := (List.range n1).map fun a => if a < k then .slice (some ⟨g, a * wd, none⟩) wd wd else .slice none 0 0
theorem rowsT_len (g wd n1 k : Nat) : (rowsT g wd n1 k).length = n1 := by simp [rowsT]
theorem rowsT_get (g wd n1 k a : Nat) (h : a < n1) : (rowsT g wd n1 k)[a]? = some (if a < k then .slice (some ⟨g, a * wd, none⟩) wd wd else .slice none 0 0) := by simp [rowsT, h]
theorem rowsT_set (g wd n1 k : Nat) : (rowsT g wd n1 k).set k (.slice (some ⟨g, k * wd, none⟩) wd wd) = rowsT g wd n1 (k + 1) := by
  apply List.ext_getElem?
  intro a
  rw [List.getElem?_set]
  by_cases ha : a < n1
  · rw [rowsT_get _ _ _ _ _ ha, rowsT_get _ _ _ _ _ ha]
    by_cases e : k = a
    · subst e; rw [if_pos rfl, if_pos (by rw [rowsT_len]; exact ha), if_pos (by omega)]
    · rw [if_neg e]
      by_cases h2 : a < k
      · rw [if_pos h2, if_pos (by omega)]
      · rw [if_neg h2, if_neg (by omega)]
  · rw [List.getElem?_eq_none (l := rowsT g wd n1 k) (by rw [rowsT_len]; omega), List.getElem?_eq_none (l := rowsT g wd n1 (k + 1)) (by rw [rowsT_len]; omega)]
    split
    · split
      · rename_i h; rw [rowsT_len] at h; omega
      · rfl
    · rfl
theorem rowsT_zero (g wd n1 : Nat) : rowsT g wd n1 0 = List.replicate n1 (.slice none 0 0) := by
  apply List.ext_getElem?
  intro a
  by_cases ha : a < n1
  · rw [rowsT_get _ _ _ _ _ ha, List.getElem?_replicate, if_pos ha]; rfl
  · rw [List.getElem?_eq_none (by rw [rowsT_len]; omega), List.getElem?_replicate, if_neg ha]

theorem own_cell {W : World} {B e g n : Nat} {L : List Value} (h : W.ownsRow B e 1 (.slice (some ⟨g, 0, none⟩) n n) n L) {j : Nat} {u : Value} (hj : j < n) (hu : L[j]? = some u) : W.cell? ⟨g, j, none⟩ = some u := by
  rw [h.cellAt j (by omega)]; exact hu
/-- Downwards. -/
def dn : Nat → Int
  | 0 => -1
  | q + 1 => (q : Int)
theorem dn_eq (q : Nat) : (q : Int) - 1 = dn q := by
  cases q with
  | zero => rfl
  | succ n => show ((n + 1 : Nat) : Int) - 1 = (n : Int); omega
abbrev TabC (x u : ByteArray) (W : World) (g T k j : Nat) : Prop := W.ownsRow g 2 1 (.slice (some ⟨g, 0, none⟩) T T) T ((tabL x u k j).map (Value.int .i64))
abbrev RowC (W : World) (g gT wd n1 k : Nat) : Prop := W.ownsRow g 41 1 (.slice (some ⟨g, 0, none⟩) n1 n1) n1 (rowsT gT wd n1 k)
theorem TabC.get {x u : ByteArray} {W : World} {g T k j p : Nat} (h : TabC x u W g T k j) (hT : T = (x.size + 1) * (u.size + 1)) (hp : p < T) : W.cell? ⟨g, p, none⟩ = some (.int .i64 (fT x u k j p : Int)) := own_cell h hp (by rw [List.getElem?_map, tabL_get x u k j p (by omega)]; rfl)
theorem RowC.get {W : World} {g gT wd n1 k a : Nat} (h : RowC W g gT wd n1 k) (ha : a < n1) (hk : a < k) : W.cell? ⟨g, a, none⟩ = some (.slice (some ⟨gT, a * wd, none⟩) wd wd) := own_cell h ha (by rw [rowsT_get _ _ _ _ _ ha, if_pos hk])
theorem TabC.zero {x u : ByteArray} {W : World} {g T : Nat} (h : W.ownsRow g 2 1 (.slice (some ⟨g, 0, none⟩) T T) T (madeCells (Value.int .i64 0).cells (T * 1)).toList) (hT : T = (x.size + 1) * (u.size + 1)) : TabC x u W g T x.size 0 := by
  rw [show (Value.int .i64 0).cells = #[Value.int .i64 0] from rfl, toList_madeCells_one, Nat.mul_one] at h
  unfold TabC
  rw [tabL_zero, ← hT]
  exact h
theorem RowC.zero {W : World} {g gT wd n1 : Nat} (h : W.ownsRow g 41 1 (.slice (some ⟨g, 0, none⟩) n1 n1) n1 (madeCells (Value.slice none 0 0).cells (n1 * 1)).toList) : RowC W g gT wd n1 0 := by
  rw [show (Value.slice none 0 0).cells = #[Value.slice none 0 0] from rfl, toList_madeCells_one, Nat.mul_one] at h
  unfold RowC
  rw [rowsT_zero]
  exact h
theorem TabC.congr {x u : ByteArray} {W : World} {g T k j k' j' : Nat} (h : TabC x u W g T k j) (e : ∀ p, fT x u k j p = fT x u k' j' p) : TabC x u W g T k' j' := by
  unfold TabC
  rw [← tabL_congr e]
  exact h
theorem TabC.put {x u : ByteArray} {W : World} {g T k j : Nat} (h : TabC x u W g T (k + 1) j) (hj : j < u.size) : TabC x u (W.setCell ⟨g, k * (u.size + 1) + j, none⟩ (.int .i64 (lce x u k j : Int))) g T (k + 1) (j + 1) := by
  have := (h.stored (k * (u.size + 1) + j) (.int .i64 (lce x u k j : Int))).1
  rwa [tabL_set x u k j hj] at this
theorem TabC.skip {x u : ByteArray} {W : World} {g T k j : Nat} (h : TabC x u W g T (k + 1) j) (hj : j < u.size) (e : lce x u k j = 0) : TabC x u W g T (k + 1) (j + 1) := h.congr fun p => by
  rw [fT_step x u k j p hj]
  by_cases e2 : p = k * (u.size + 1) + j
  · rw [if_pos e2, e, e2]
    obtain ⟨h1, h2⟩ := flat_div u k j (by omega)
    unfold fT
    rw [h1, h2, if_neg (by omega)]
  · rw [if_neg e2]
theorem RowC.put {W : World} {g gT wd n1 k : Nat} (h : RowC W g gT wd n1 k) : RowC (W.setCell ⟨g, k, none⟩ (.slice (some ⟨gT, k * wd, none⟩) wd wd)) g gT wd n1 (k + 1) := by
  have := (h.stored k (.slice (some ⟨gT, k * wd, none⟩) wd wd)).1
  rwa [rowsT_set] at this
theorem flat_lt {x u : ByteArray} {i j : Nat} (hi : i ≤ x.size) (hj : j ≤ u.size) : i * (u.size + 1) + j < (x.size + 1) * (u.size + 1) := by
  have := Nat.mul_le_mul_right (u.size + 1) (show i + 1 ≤ x.size + 1 by omega)
  have e : (i + 1) * (u.size + 1) = i * (u.size + 1) + (u.size + 1) := Nat.succ_mul _ _
  omega

set_option maxRecDepth 100000 in
set_option maxHeartbeats 4000000 in
theorem commonLengths_any (x u : ByteArray) (w : World) (hx : x.size ≤ 60) (hu : u.size ≤ 60) :
    Calls Try.prog 85 #[.string x, .string u] w fun e w' => ∃ gR gT, e = .returned (.slice (some ⟨gR, 0, none⟩) (x.size + 1) (x.size + 1)) ∧ gR < w'.heap.size ∧ gT < w'.heap.size ∧
      (∀ i, i ≤ x.size → w'.cell? ⟨gR, i, none⟩ = some (.slice (some ⟨gT, i * (u.size + 1), none⟩) (u.size + 1) (u.size + 1))) ∧
      (∀ i j, i ≤ x.size → j ≤ u.size → w'.cell? ⟨gT, i * (u.size + 1) + j, none⟩ = some (.int .i64 (lce x u i j : Int))) ∧ Below w.heap.size w w' := by
  obtain ⟨i0, hi, hz0, hz1, hz2⟩ := info_parts infoI64
  obtain ⟨j0, hj, hy0, hy1, hy2⟩ := info_parts infoSI
  have hmo : Try.prog.follows .mixedOrders = true := by kernel_rfl
  obtain ⟨T, hT⟩ : ∃ T, T = (x.size + 1) * (u.size + 1) := ⟨_, rfl⟩
  have hTI : ((x.size : Int) + 1) * ((u.size : Int) + 1) = (T : Int) := by rw [hT]; simp
  have hTl : T ≤ 3721 := by rw [hT]; exact Nat.mul_le_mul (show x.size + 1 ≤ 61 by omega) (show u.size + 1 ≤ 61 by omega)
  have HTT := Lib.hid hT
  clear hT
  go_enter Try.func85, Try.ntmps85
  go_wp2_with (first
    | (at_make; refine wpList_make_full _ rfl _ _ 41 rfl w.heap.size 2 i0 (.int .i64 0) 1 Try.underlying41 hi hz0 hz1 .i64 .i64 (T : Int) (T : Int) T rfl rfl rfl rfl (by rw [hz2]; omega) (by unfold maxLen; omega) (Nat.le_refl _) ?_; intro w1 hown1 hgrow1)
    | (at_make; refine wpList_make_full _ rfl _ _ 107 rfl w1.heap.size 41 j0 (.slice none 0 0) 1 Try.underlying107 hj hy0 hy1 .i64 .i64 ((x.size : Int) + 1) ((x.size : Int) + 1) (x.size + 1) rfl rfl (by omega) (by omega) (by rw [hy2]; omega) (by unfold maxLen; omega) (Nat.le_refl _) ?_; intro w2 hown2 hgrow2))
  have hT0 : TabC x u w2 w.heap.size T x.size 0 := TabC.zero (own_below hown1 ((Below.refl _ _).grown hgrow2 (Nat.le_refl _) (fun _ e => by cases e))) HTT.out
  have hR0 : RowC w2 w1.heap.size w.heap.size (u.size + 1) (x.size + 1) 0 := RowC.zero hown2
  have hgl : w.heap.size < w1.heap.size := (World.ownsRow.lt hown1 w.heap.size rfl).2
  have hB0 : Below w.heap.size w w2 := ((Below.refl _ _).grown hgrow1 (Nat.le_refl _) (fun _ e => by cases e)).grown hgrow2 (by omega) (fun _ e => by cases e)
  clear hown1 hown2 hgrow1 hgrow2 hi hz0 hz1 hz2 hj hy0 hy1 hy2
  generalize w1.heap.size = gR at *
  go_wp2
  go_loopg [26] (x.size + 1) (fun gg s26 wr => ∃ k : Nat, k + gg = x.size + 1 ∧ s26 = .int .i64 (k : Int) ∧ TabC x u wr w.heap.size T x.size 0 ∧ RowC wr gR w.heap.size (u.size + 1) (x.size + 1) k ∧ Below w.heap.size w wr)
  case atStart => exact ⟨0, by omega, rfl, hT0, hR0, hB0⟩
  case round =>
    clear hT0 hR0 hB0
    obtain ⟨k, hk, rfl, hT, hR, hB⟩ := hrel
    by_cases hpk : k < x.size + 1
    · obtain ⟨gq, rfl⟩ : ∃ q, gk = q + 1 := ⟨gk - 1, by omega⟩
      have hpi : (k : Int) < (x.size : Int) + 1 := by omega
      have fz : wr.frozen? ⟨gR, k, none⟩ = false := hR.frozenAt k
      have ck := own_cell hR hpk (rowsT_get _ _ _ _ _ hpk)
      rw [if_neg (Nat.lt_irrefl k)] at ck
      have hlo : (k : Int) * ((u.size : Int) + 1) = ((k * (u.size + 1) : Nat) : Int) := by simp
      have hhi : ((k : Int) + 1) * ((u.size : Int) + 1) = (((k + 1) * (u.size + 1) : Nat) : Int) := by simp
      have e1 : (k + 1) * (u.size + 1) = k * (u.size + 1) + (u.size + 1) := Nat.succ_mul _ _
      have e2 : (k + 1) * (u.size + 1) ≤ T := by rw [HTT.out]; exact Nat.mul_le_mul_right _ (by omega)
      have e3 : k * (u.size + 1) ≤ T := by omega
      have hsl := fun W => slice_hi W w.heap.size T (k * (u.size + 1)) ((k + 1) * (u.size + 1)) (u.size + 1) e1 e2 (by omega) (by omega)
      have HR2 := Lib.hid hR.put
      have HT2 := Lib.hid (ownsRow_setCell_other hT (a := ⟨gR, k, none⟩) (by simp [Value.ownBlock]; omega) (.slice (some ⟨w.heap.size, k * (u.size + 1), none⟩) (u.size + 1) (u.size + 1)))
      have HB2 := Lib.hid (hB.setCell (p := ⟨gR, k, none⟩) (by show w.heap.size ≤ gR; omega) (.slice (some ⟨w.heap.size, k * (u.size + 1), none⟩) (u.size + 1) (u.size + 1)))
      have HK := Lib.hid hk
      clear hT hR hB hk e1
      generalize (k + 1) * (u.size + 1) = hi at *
      generalize k * (u.size + 1) = lo at *
      have hlo2 : lo ≤ 3721 := by omega
      have hhi2 : hi ≤ 3721 := by omega
      go_wp2
      go_roundg gq
      case measure => omega
      case rel => exact ⟨k + 1, by have := HK.out; omega, by go_num, HT2.out, HR2.out, HB2.out⟩
    · obtain rfl : k = x.size + 1 := by omega
      have hpi : ¬ (((x.size + 1 : Nat) : Int) < (x.size : Int) + 1) := by omega
      obtain ⟨wo, hwo⟩ : ∃ wo : World, wo = wr := ⟨_, rfl⟩
      rw [← hwo] at hT hR hB ⊢
      clear hwo wr hk
      go_wp2
      go_loopg [9] x.size (fun gg s9 wr' => gg ≤ x.size ∧ s9 = .int .i64 (dn gg) ∧ TabC x u wr' w.heap.size T gg 0 ∧ RowC wr' gR w.heap.size (u.size + 1) (x.size + 1) (x.size + 1) ∧ Below w.heap.size w wr')
      case atStart => exact ⟨Nat.le_refl _, by rw [← dn_eq], hT, hR, hB⟩
      case round =>
        clear hT hR hB
        obtain ⟨hq, h9, hT, hR, hB⟩ := hrel
        cases gk with
        | zero =>
          have h9 : _ = Value.int .i64 (-1) := h9
          subst h9
          have HT2 := Lib.hid hT
          have HR2 := Lib.hid hR
          go_wp2
          go_ret
          refine ⟨gR, w.heap.size, rfl, (World.ownsRow.lt HR2.out gR rfl).2, (World.ownsRow.lt HT2.out w.heap.size rfl).2, fun i hi => HR2.out.get (by omega) (by omega), fun i j hi hj => ?_, hB⟩
          have := HT2.out.get HTT.out (show i * (u.size + 1) + j < T by rw [HTT.out]; exact flat_lt hi hj)
          rw [fT_done, (flat_div u i j hj).1, (flat_div u i j hj).2] at this
          exact this
        | succ q =>
          have h9 : _ = Value.int .i64 (q : Int) := h9
          subst h9
          have hq0 : (0 : Int) ≤ (q : Int) := by omega
          have HQ := Lib.hid hq
          clear hq
          obtain ⟨wp, hwp⟩ : ∃ wp : World, wp = wr := ⟨_, rfl⟩
          rw [← hwp] at hT hR hB ⊢
          clear hwp wr
          go_wp2
          go_loopg [55] u.size (fun gg s55 wr' => ∃ j : Nat, j + gg = u.size ∧ s55 = .int .i64 (j : Int) ∧ TabC x u wr' w.heap.size T (q + 1) j ∧ RowC wr' gR w.heap.size (u.size + 1) (x.size + 1) (x.size + 1) ∧ Below w.heap.size w wr')
          case atStart => exact ⟨0, by omega, rfl, hT, hR, hB⟩
          case round =>
            clear hT hR hB
            obtain ⟨j, hj, rfl, hT, hR, hB⟩ := hrel
            have HJ := Lib.hid hj
            by_cases hpj : j < u.size
            · obtain ⟨gj, rfl⟩ : ∃ g, gk = g + 1 := ⟨gk - 1, by omega⟩
              have hqx : q < x.size := by have := HQ.out; omega
              have hji : (j : Int) < (u.size : Int) := by omega
              have hx1 := fun W => index_five x q hqx W
              have hu1 := fun W => index_five u j hpj W
              clear hj
              by_cases he : x[q]'hqx = u[j]'hpj
              · have hd : (((x[q]'hqx).toNat : Int) == ((u[j]'hpj).toNat : Int)) = true := by rw [he]; simp
                have hl := lce_hit hqx hpj he
                have hle := (lce_le x u (x.size - (q + 1)) (q + 1) (j + 1) rfl (by omega) (by omega)).1
                have hf : fT x u (q + 1) j ((q + 1) * (u.size + 1) + (j + 1)) = lce x u (q + 1) (j + 1) := by
                  obtain ⟨h1, h2⟩ := flat_div u (q + 1) (j + 1) (by omega)
                  unfold fT
                  rw [h1, h2, if_pos (.inl (Nat.le_refl _))]
                have hlt1 : (q + 1) * (u.size + 1) + (j + 1) < T := by rw [HTT.out]; exact flat_lt (by omega) (by omega)
                have hlt2 : q * (u.size + 1) + j < T := by rw [HTT.out]; exact flat_lt (by omega) (by omega)
                have HP : Hid (∀ W, TabC x u W w.heap.size T (q + 1) j → RowC W gR w.heap.size (u.size + 1) (x.size + 1) (x.size + 1) → Below w.heap.size w W →
                    W.cell? ⟨gR, q, none⟩ = some (.slice (some ⟨w.heap.size, q * (u.size + 1), none⟩) (u.size + 1) (u.size + 1)) ∧
                    W.cell? ⟨gR, q + 1, none⟩ = some (.slice (some ⟨w.heap.size, (q + 1) * (u.size + 1), none⟩) (u.size + 1) (u.size + 1)) ∧
                    W.cell? ⟨w.heap.size, (q + 1) * (u.size + 1) + (j + 1), none⟩ = some (.int .i64 (lce x u (q + 1) (j + 1) : Int)) ∧
                    W.cell? ⟨w.heap.size, q * (u.size + 1) + j, none⟩ = some (.int .i64 (fT x u (q + 1) j (q * (u.size + 1) + j) : Int)) ∧
                    W.frozen? ⟨w.heap.size, q * (u.size + 1) + j, none⟩ = false ∧
                    Hid (TabC x u (W.setCell ⟨w.heap.size, q * (u.size + 1) + j, none⟩ (.int .i64 ((lce x u (q + 1) (j + 1) : Int) + 1))) w.heap.size T (q + 1) (j + 1)) ∧
                    Hid (RowC (W.setCell ⟨w.heap.size, q * (u.size + 1) + j, none⟩ (.int .i64 ((lce x u (q + 1) (j + 1) : Int) + 1))) gR w.heap.size (u.size + 1) (x.size + 1) (x.size + 1)) ∧
                    Hid (Below w.heap.size w (W.setCell ⟨w.heap.size, q * (u.size + 1) + j, none⟩ (.int .i64 ((lce x u (q + 1) (j + 1) : Int) + 1))))) := Lib.hid fun W hT hR hB => by
                  have hc := hT.get HTT.out hlt1
                  rw [hf] at hc
                  refine ⟨hR.get (by omega) (by omega), hR.get (by omega) (by omega), hc, hT.get HTT.out hlt2, hT.frozenAt _, Lib.hid ?_, Lib.hid ?_, Lib.hid ?_⟩
                  · have := hT.put hpj
                    rwa [hl, show ((lce x u (q + 1) (j + 1) + 1 : Nat) : Int) = (lce x u (q + 1) (j + 1) : Int) + 1 by omega] at this
                  · exact ownsRow_setCell_below hR hgl _
                  · exact hB.setCell (p := ⟨w.heap.size, _, none⟩) (Nat.le_refl _) _
                clear he hl hf
                have hlt3 : q * (u.size + 1) + j ≤ 3721 := by omega
                generalize (q + 1) * (u.size + 1) = hi at *
                generalize q * (u.size + 1) = lo at *
                generalize fT x u (q + 1) j (lo + j) = old at *
                generalize lce x u (q + 1) (j + 1) = c at *
                generalize (x[q]'hqx).toNat = xa at *
                generalize (u[j]'hpj).toNat = ua at *
                go_wp2
                go_quiet (fail)
                have hT1 : TabC x u (wr.drewN nq) w.heap.size T (q + 1) j := own_below hT ((Below.refl _ _).drewN nq)
                have hR1 : RowC (wr.drewN nq) gR w.heap.size (u.size + 1) (x.size + 1) (x.size + 1) := own_below hR ((Below.refl _ _).drewN nq)
                have hB1 := hB.drewN nq
                clear hT hR hB
                generalize wr.drewN nq = wn at *
                obtain ⟨c1, c2, c3, c4, z1, P1, P2, P3⟩ := HP.out wn hT1 hR1 hB1
                have hT2 : TabC x u wn.drew w.heap.size T (q + 1) j := own_below hT1 (Below.refl _ _).drew
                have hR2 : RowC wn.drew gR w.heap.size (u.size + 1) (x.size + 1) (x.size + 1) := own_below hR1 (Below.refl _ _).drew
                have hB2 := hB1.drew
                have HP2 := Lib.hid (HP.out wn.drew hT2 hR2 hB2)
                clear hT1 hR1 hB1 hT2 hR2 hB2 P1 P2 P3 HP c4 z1
                have e3 : (0 : Int) ≤ (q : Int) + 1 := by omega
                have e4 : ((q : Int) + 1).toNat = q + 1 := by omega
                have e5 : (q : Int) + 1 < (x.size : Int) + 1 := by omega
                have e7 : (q : Int) < (x.size : Int) := by omega
                have e6 : (q : Int) < (x.size : Int) + 1 := by omega
                have f3 : (0 : Int) ≤ (j : Int) + 1 := by omega
                have f4 : ((j : Int) + 1).toNat = j + 1 := by omega
                have f5 : (j : Int) + 1 < (u.size : Int) + 1 := by omega
                have f6 : (j : Int) < (u.size : Int) + 1 := by omega
                go_wp2
                have wq1 : IntKind.i64.wrap ((q : Int) + 1) = (q : Int) + 1 := IntWalk.i64_in _ (by omega)
                have wq2 : IntKind.i64.wrap ((j : Int) + 1) = (j : Int) + 1 := IntWalk.i64_in _ (by omega)
                have wq3 : IntKind.i64.wrap ((c : Int) + 1) = (c : Int) + 1 := IntWalk.i64_in _ (by omega)
                go_still_tail 16, hmo
                change wpList _ _ _ _ _ wn.drew
                generalize wn.drew = wz at *
                obtain ⟨d1, d2, d3, d4, z1, P1, P2, P3⟩ := HP2.out
                clear d1 d2 d3 c1 c2 c3 HP2
                go_wp2
                go_roundg gj
                case measure => omega
                case rel => exact ⟨j + 1, by have := HJ.out; omega, by go_num, P1.out, P2.out, P3.out⟩
              · have hd : (((x[q]'hqx).toNat : Int) == ((u[j]'hpj).toNat : Int)) = false := by
                  rw [beq_eq_false_iff_ne]; intro h; exact he (byte_eq_iff.1 h)
                have HT2 := Lib.hid (hT.skip hpj (lce_miss hqx hpj he))
                have HT3 := Lib.hid fun n => own_below HT2.out ((Below.refl _ _).drewN n)
                have HR2 := Lib.hid fun n => own_below hR ((Below.refl _ _).drewN n)
                have HB2 := Lib.hid fun n => hB.drewN n
                clear hT hR hB he HT2
                generalize (x[q]'hqx).toNat = xa at *
                generalize (u[j]'hpj).toNat = ua at *
                go_wp2
                go_quiet (fail)
                go_wp2
                go_roundg gj
                case measure => omega
                case rel => exact ⟨j + 1, by have := HJ.out; omega, by go_num, HT3.out _, HR2.out _, HB2.out _⟩
            · obtain rfl : j = u.size := by omega
              have hji : ¬ (u.size : Int) < (u.size : Int) := by omega
              have HT2 := Lib.hid (hT.congr (fT_row x u q))
              have HR2 := Lib.hid hR
              have HB2 := Lib.hid hB
              clear hT hR hB hj
              go_wp2
              go_roundg q
              case measure => omega
              case rel => exact ⟨by have := HQ.out; omega, by have := HQ.out; rw [← dn_eq, IntWalk.wrap64_in _ (by omega)], HT2.out, HR2.out, HB2.out⟩

end Go.Proofs.Ytbhgghajbdlfkab

/-! ### LcfI -/
namespace Go.Proofs.Ytbhgghajbdlfkab
set_option linter.unusedVariables false
set_option linter.unusedSimpArgs false
open Go.RowKit

theorem lrow_len (x u : ByteArray) (i : Nat) : (lrow x u i).length = u.size + 1 := by simp [lrow]
theorem lrow_get (x u : ByteArray) (i j : Nat) (h : j < u.size + 1) : (lrow x u i).getD j 0 = (lce x u i j : Int) := by
  rw [List.getD_eq_getElem?_getD]
  simp [lrow, h]

set_option maxRecDepth 100000 in
set_option maxHeartbeats 2000000 in
theorem impl_LongestCommonFactor (x u : ByteArray) (w : World) (sx : x.size ≤ maxLen) (su : u.size ≤ maxLen) :
    Calls Try.prog 44 #[.string x, .string u] w fun e w' => e = .returned (.tuple #[.string (lcfR x u).1, .int .i64 (lcfR x u).2]) ∧ Below w.heap.size w w' := by
  by_cases h : IsW x ∧ IsW u
  · rw [lcfR_ok h]
    have hx := h.1.size
    have hu := h.2.size
    have HB := Lib.hid (bestW_size x u hx)
    have CL := Lib.hid fun w => commonLengths_any x u w hx hu
    have hbl := HB.out (x.size + 1) (Nat.le_refl _)
    obtain ⟨R, HR0⟩ : ∃ R, R = bestW x u (x.size + 1) := ⟨_, rfl⟩
    rw [← HR0] at hbl ⊢
    have HR := Lib.hid HR0
    have H := Lib.hid h
    clear h HR0
    go_enter Try.func44, Try.ntmps44
    go_wp2_with (first
      | (go_at_call 49; refine (areWords2_yes _ x u _ (by simp) (by simp [go_sem]) (by simp [go_sem]) H.out.1 H.out.2).mono ?_; rintro e w1 ⟨rfl, b1⟩)
      | (go_at_call 85; refine (CL.out _).mono ?_; rintro e w2 ⟨gR, gT, rfl, lR, lT, cR, cT, b2⟩))
    have B2 := ((Below.new w _).then b1).then b2
    have hbz := B2.size
    have CR := Lib.hid cR
    have CT := Lib.hid cT
    clear b1 b2 cR cT
    go_loopg [6, 19] (x.size + 1) (fun gg s6 s19 wr => ∃ k : Nat, k + gg = x.size + 1 ∧ s19 = .int .i64 (k : Int) ∧ s6 = .string (bestW x u k) ∧ Below w2.heap.size w2 wr)
    case atStart => exact ⟨0, by omega, rfl, rfl, Below.refl _ _⟩
    case round =>
      obtain ⟨k, hk, rfl, rfl, hB⟩ := hrel
      by_cases hpk : k < x.size + 1
      · obtain ⟨gq, rfl⟩ : ∃ q, gk = q + 1 := ⟨gk - 1, by omega⟩
        have hpi : (k : Int) < (x.size : Int) + 1 := by omega
        have ck := (hB.cell (p := ⟨gR, k, none⟩) lR).trans (CR.out k (by omega))
        obtain ⟨m1, m2, m3, m4⟩ := lmax_spec x u k (by omega)
        have HMX : Hid (∀ W, Below w2.heap.size w2 W → Calls Try.prog 86 #[.slice (some ⟨gT, k * (u.size + 1), none⟩) (u.size + 1) (u.size + 1)] W fun e w' => e = .returned (.int .i64 (lmax x u k : Int)) ∧ w' = W) := Lib.hid fun W hW => by
          have := Try.slices_Max_int gT (k * (u.size + 1)) (u.size + 1) (u.size + 1) (lrow x u k) W (by omega) (by rw [lrow_len]; omega) (by omega) (fun j hj => by rw [lrow_len] at hj; rw [lrow_get x u k j hj]; exact (hW.cell (p := ⟨gT, k * (u.size + 1) + j, none⟩) lT).trans (CT.out k j (by omega) (by omega)))
          rw [← lrow_len x u k, List.take_length, m1, lrow_len] at this
          exact this
        have hs := fun W => slice_mid x k (lmax x u k) m4 W
        have hsz := cand_size x u k (by omega)
        unfold candW at hsz
        have HS : Hid (bestW x u (k + 1) = if betterB (x.extract k (k + lmax x u k)) (bestW x u k) = true then x.extract k (k + lmax x u k) else bestW x u k) := Lib.hid rfl
        have hbk := HB.out k (by omega)
        have HK := Lib.hid hk
        clear m1 m2 m3 hk
        generalize k * (u.size + 1) = lo at *
        generalize x.extract k (k + lmax x u k) = t at *
        generalize lmax x u k = m at *
        generalize bestW x u k = b at *
        by_cases q1 : b.size < t.size
        · have q1i : (b.size : Int) < (t.size : Int) := by omega
          have hb2 : betterB t b = true := (better_iff t b).2 (.inl q1)
          have HS2 : Hid (bestW x u (k + 1) = t) := Lib.hid (by rw [HS.out, if_pos hb2])
          clear hb2
          go_wp2_with (go_at_call 86; refine (HMX.out _ hB).mono ?_; rintro e w3 ⟨rfl, rfl⟩)
          go_roundg gq
          case measure => omega
          case rel => exact ⟨k + 1, by have := HK.out; omega, by go_num, by rw [HS2.out], hB⟩
        · have q1i : ¬ (b.size : Int) < (t.size : Int) := by omega
          by_cases q2 : t.size = b.size
          · have q2i : (t.size : Int) = (b.size : Int) := by omega
            by_cases q3 : wlt t b
            · obtain ⟨f1, f2⟩ := lt_facts q3
              have hb2 : betterB t b = true := (better_iff t b).2 (.inr ⟨q2, q3⟩)
              have HS2 : Hid (bestW x u (k + 1) = t) := Lib.hid (by rw [HS.out, if_pos hb2])
              clear hb2
              go_wp2_with (go_at_call 86; refine (HMX.out _ hB).mono ?_; rintro e w3 ⟨rfl, rfl⟩)
              go_roundg gq
              case measure => omega
              case rel => exact ⟨k + 1, by have := HK.out; omega, by go_num, by rw [HS2.out], hB⟩
            · have f1 : Op.bytesLess t.toList b.toList = false := by
                by_cases q4 : t = b
                · subst q4; exact (eq_facts t).1
                · exact (gt_facts (wlt_tri q3 q4)).1
              have hb2 : ¬ betterB t b = true := fun h => by rcases (better_iff t b).1 h with h | ⟨_, h⟩ <;> first | omega | exact q3 h
              have HS2 : Hid (bestW x u (k + 1) = b) := Lib.hid (by rw [HS.out, if_neg hb2])
              clear hb2
              go_wp2_with (go_at_call 86; refine (HMX.out _ hB).mono ?_; rintro e w3 ⟨rfl, rfl⟩)
              go_roundg gq
              case measure => omega
              case rel => exact ⟨k + 1, by have := HK.out; omega, by go_num, by rw [HS2.out], hB⟩
          · have q2i : ¬ (t.size : Int) = (b.size : Int) := by omega
            have q2b : ((t.size : Int) == (b.size : Int)) = false := by rw [beq_eq_false_iff_ne]; exact q2i
            have hb2 : ¬ betterB t b = true := fun h => by rcases (better_iff t b).1 h with h | ⟨h, _⟩ <;> omega
            have HS2 : Hid (bestW x u (k + 1) = b) := Lib.hid (by rw [HS.out, if_neg hb2])
            clear hb2
            go_wp2_with (go_at_call 86; refine (HMX.out _ hB).mono ?_; rintro e w3 ⟨rfl, rfl⟩)
            go_roundg gq
            case measure => omega
            case rel => exact ⟨k + 1, by have := HK.out; omega, by go_num, by rw [HS2.out], hB⟩
      · obtain rfl : gk = 0 := by omega
        obtain rfl : k = x.size + 1 := by omega
        have hpi : ¬ (((x.size + 1 : Nat) : Int) < (x.size : Int) + 1) := by omega
        rw [← HR.out]
        have hB2 := B2.trans (hB.mono hbz)
        clear hB B2 hk
        go_wp2_with (go_at_call 62; refine (strings_Clone _ _ (by omega)).mono ?_; rintro e w3 ⟨rfl, b3⟩)
        go_ret2
        exact ⟨rfl, hB2.then b3⟩
  · rw [lcfR_bad h]
    have H := Lib.hid h
    clear h
    go_enter Try.func44, Try.ntmps44
    go_wp2_with (go_at_call 49; refine (areWords2_no _ x u _ (by simp) (by simp [go_sem]) (by simp [go_sem]) sx su H.out).mono ?_; rintro e w1 ⟨rfl, b1⟩)
    go_ret2
    exact ⟨rfl, (Below.new w _).then b1⟩

end Go.Proofs.Ytbhgghajbdlfkab

/-! ### HasInt -/
namespace Go.Proofs.Ytbhgghajbdlfkab
set_option linter.unusedVariables false
set_option linter.unusedSimpArgs false
open Go.RowKit

theorem least_at (L : List Int) (z : Int) (h : z ∈ L) : ∃ j, ∃ hj : j < L.length, L[j]'hj = z ∧ ∀ i (hi : i < L.length), i < j → ¬ L[i]'hi = z := by
  induction L with
  | nil => cases h
  | cons a L ih =>
    by_cases e : a = z
    · exact ⟨0, by simp, e, fun i hi h => by omega⟩
    · rcases List.mem_cons.1 h with h | h
      · exact absurd h.symm e
      · obtain ⟨j, hj, h1, h2⟩ := ih h
        refine ⟨j + 1, by simp; omega, h1, fun i hi h3 => ?_⟩
        cases i with
        | zero => exact e
        | succ i => exact h2 i (by simp at hi; omega) (by omega)

set_option maxRecDepth 100000 in
theorem hasInt_yes (B1 : Nat) (v1 : Value) (L : List Int) (z : Int) (w : World) (h1 : OwnI w B1 v1 L) (hz : z ∈ L) :
    Calls Try.prog 24 #[v1, .int .i64 z] w fun e w' => e = .returned (.bool true) ∧ Below w.heap.size w w' := by
  have hn : 0 < L.length := List.length_pos_iff.2 fun e => by rw [e] at hz; cases hz
  obtain ⟨j, hj, hjz, hjm⟩ := least_at L z hz
  obtain ⟨g1, c1, rfl, _, hg1, hc1, hm, cell1, _⟩ := h1.row hn
  unfold maxLen at hm
  have C1 := Lib.hid cell1
  have JM := Lib.hid hjm
  have JZ := Lib.hid hjz
  clear h1 cell1 hz hjm hjz
  go_enter Try.func24, Try.ntmps24
  go_wp2
  go_loopw [5] (fun i wr => ∃ k : Nat, k ≤ j ∧ i = .int .i64 k ∧ Below w.heap.size w wr) (fun i _ => L.length - (intOf i).toNat)
  case atStart => exact ⟨0, Nat.zero_le _, rfl, Below.refl _ _⟩
  case round =>
    obtain ⟨k, hk, rfl, hB⟩ := hrel
    have hp : k < L.length := by omega
    have hpi : (k : Int) < (L.length : Int) := by omega
    have k1 : wr.cell? ⟨g1, k, none⟩ = some (.int .i64 (L[k]'hp)) := by rw [(bcell hB).1 g1 k hg1]; exact C1.out k hp
    have hpc1 : k < c1 := by omega
    by_cases he : k = j
    · have e : L[k]'hp = z := by subst he; exact JZ.out
      rw [e] at k1
      clear e he
      go_wp2
      go_ret
      exact ⟨rfl, hB⟩
    · have hkj : k < j := by omega
      have e := JM.out k hp hkj
      clear he
      generalize L[k]'hp = y at k1 e
      have e2 : ((y : Int) == z) = false := by rw [beq_eq_false_iff_ne]; exact e
      go_wp2
      go_roundw
      case rel => exact ⟨k + 1, by omega, by go_num, hB⟩
      case measure => simp [intOf]; omega

end Go.Proofs.Ytbhgghajbdlfkab

/-! ### IsRow -/
namespace Go.Proofs.Ytbhgghajbdlfkab
set_option linter.unusedVariables false
open Go.RowKit
/-- It is nil; or it leads to a row of 'cap' cells, the numbers 'zs' (the first 'len' are its elements), each fitting its kind. -/
def IsRow (k : IntKind) (w : World) (a : Option Addr) (len cap : Nat) (zs : List Int) : Prop :=
  (a = none ∧ len = 0 ∧ cap = 0 ∧ zs = []) ∨
  ∃ x, a = some x ∧ len ≤ cap ∧ cap ≤ maxLen ∧ zs.length = cap ∧ (∀ i, i < zs.length → w.cell? (x.add i) = some (.int k (zs.getD i 0))) ∧ ∀ n ∈ zs, (Lit.int k n).wf = true
theorem IsRow.below {k : IntKind} {w w' : World} {a : Option Addr} {len cap : Nat} {zs : List Int} (h : IsRow k w a len cap zs) (b : Below w.heap.size w w') : IsRow k w' a len cap zs := by
  rcases h with h | ⟨x, h1, h2, h3, h4, h5, h6⟩
  · exact .inl h
  · exact .inr ⟨x, h1, h2, h3, h4, fun i hi => by rw [b.cell (World.block_lt_of_cell? _ _ (h5 i hi))]; exact h5 i hi, h6⟩
theorem IsRow.len_le {k : IntKind} {w : World} {a : Option Addr} {len cap : Nat} {zs : List Int} (h : IsRow k w a len cap zs) : len ≤ 9223372036854775807 := by
  rcases h with ⟨_, h, _⟩ | ⟨x, h1, h2, h3, _⟩
  · omega
  · unfold maxLen at h3; omega
end Go.Proofs.Ytbhgghajbdlfkab

/-! ### Like -/
namespace Go.Proofs.Ytbhgghajbdlfkab
set_option linter.unusedVariables false
set_option linter.unusedSimpArgs false
open Go.RowKit

set_option maxRecDepth 100000 in
theorem big_no (a : Option Addr) (len cap : Nat) (w : World) (h : len ≤ 4096) :
    Calls Try.prog 14 #[.slice a len cap] w fun e w' => e = .returned (.bool false) ∧ Below w.heap.size w w' := by
  go_enter Try.func14, Try.ntmps14
  go_wp2
  go_ret
  exact ⟨ret_bool (by simp; omega), Below.refl _ _⟩
set_option maxRecDepth 100000 in
theorem big_yes (a : Option Addr) (len cap : Nat) (w : World) (h : 4096 < len) :
    Calls Try.prog 14 #[.slice a len cap] w fun e w' => e = .returned (.bool true) ∧ Below w.heap.size w w' := by
  go_enter Try.func14, Try.ntmps14
  go_wp2
  go_ret
  exact ⟨ret_bool (by simp; omega), Below.refl _ _⟩

set_option maxRecDepth 100000 in
theorem likeInts_yes (B1 B2 : Nat) (v1 v2 : Value) (L : List Int) (w : World) (h1 : OwnI w B1 v1 L) (h2 : OwnI w B2 v2 L) :
    Calls Try.prog 21 #[v1, v2] w fun e w' => e = .returned (.bool true) ∧ Below w.heap.size w w' := by
  by_cases h0 : L = []
  · subst h0
    obtain ⟨a1, c1, rfl⟩ := h1.empty
    obtain ⟨a2, c2, rfl⟩ := h2.empty
    clear h1 h2
    go_enter Try.func21, Try.ntmps21
    go_wp2
    refine wp_loop_rounds 1 ?_
    rw [rounds_succ]
    go_wp2
    go_ret
    exact ⟨rfl, Below.refl _ _⟩
  · have hn : 0 < L.length := List.length_pos_iff.2 h0
    obtain ⟨g1, c1, rfl, _, hg1, hc1, hm, cell1, _⟩ := h1.row hn
    obtain ⟨g2, c2, rfl, _, hg2, hc2, _, cell2, _⟩ := h2.row hn
    unfold maxLen at hm
    have C1 := Lib.hid cell1
    have C2 := Lib.hid cell2
    clear h1 h2 cell1 cell2 h0
    go_enter Try.func21, Try.ntmps21
    go_wp2
    go_loopw [5] (fun i wr => ∃ k : Nat, k ≤ L.length ∧ i = .int .i64 k ∧ Below w.heap.size w wr) (fun i _ => L.length - (intOf i).toNat)
    case atStart => exact ⟨0, Nat.zero_le _, rfl, Below.refl _ _⟩
    case round =>
      obtain ⟨k, hk, rfl, hB⟩ := hrel
      by_cases hp : k < L.length
      · have k1 : wr.cell? ⟨g1, k, none⟩ = some (.int .i64 (L[k]'hp)) := by rw [(bcell hB).1 g1 k hg1]; exact C1.out k hp
        have k2 : wr.cell? ⟨g2, k, none⟩ = some (.int .i64 (L[k]'hp)) := by rw [(bcell hB).1 g2 k hg2]; exact C2.out k hp
        have hpc1 : k < c1 := by omega
        have hpc2 : k < c2 := by omega
        generalize L[k]'hp = z at k1 k2
        go_wp2
        go_quiet (fail)
        go_wp2
        go_roundw
        case rel => exact ⟨k + 1, by omega, by go_num, hB.drewN _⟩
        case measure => simp [intOf]; omega
      · go_wp2
        go_ret
        exact ⟨rfl, hB⟩

set_option maxRecDepth 100000 in
theorem words5_yes (B1 B2 : Nat) (v1 v2 : Value) (L : List ByteArray) (w : World) (h1 : OwnS w B1 v1 L) (h2 : OwnS w B2 v2 L) :
    Calls Try.prog 32 #[v1, v2] w fun e w' => e = .returned (.bool true) ∧ Below w.heap.size w w' := by
  by_cases h0 : L = []
  · subst h0
    obtain ⟨a1, c1, rfl⟩ := h1.empty
    obtain ⟨a2, c2, rfl⟩ := h2.empty
    clear h1 h2
    go_enter Try.func32, Try.ntmps32
    go_wp2
    refine wp_loop_rounds 1 ?_
    rw [rounds_succ]
    go_wp2
    go_ret
    exact ⟨rfl, Below.refl _ _⟩
  · have hn : 0 < L.length := List.length_pos_iff.2 h0
    obtain ⟨g1, c1, rfl, _, hg1, hc1, hm, cell1, _⟩ := h1.row hn
    obtain ⟨g2, c2, rfl, _, hg2, hc2, _, cell2, _⟩ := h2.row hn
    unfold maxLen at hm
    have C1 := Lib.hid cell1
    have C2 := Lib.hid cell2
    clear h1 h2 cell1 cell2 h0
    go_enter Try.func32, Try.ntmps32
    go_wp2
    go_loopw [5] (fun i wr => ∃ k : Nat, k ≤ L.length ∧ i = .int .i64 k ∧ Below w.heap.size w wr) (fun i _ => L.length - (intOf i).toNat)
    case atStart => exact ⟨0, Nat.zero_le _, rfl, Below.refl _ _⟩
    case round =>
      obtain ⟨k, hk, rfl, hB⟩ := hrel
      by_cases hp : k < L.length
      · have k1 : wr.cell? ⟨g1, k, none⟩ = some (.string (L[k]'hp)) := by rw [(bcell hB).1 g1 k hg1]; exact C1.out k hp
        have k2 : wr.cell? ⟨g2, k, none⟩ = some (.string (L[k]'hp)) := by rw [(bcell hB).1 g2 k hg2]; exact C2.out k hp
        have hpc1 : k < c1 := by omega
        have hpc2 : k < c2 := by omega
        generalize L[k]'hp = z at k1 k2
        go_wp2
        go_quiet (fail)
        go_wp2
        go_roundw
        case rel => exact ⟨k + 1, by omega, by go_num, hB.drewN _⟩
        case measure => simp [intOf]; omega
      · go_wp2
        go_ret
        exact ⟨rfl, hB⟩

end Go.Proofs.Ytbhgghajbdlfkab

/-! ### Src -/
namespace Go.Proofs.Ytbhgghajbdlfkab
set_option linter.unusedVariables false
set_option linter.unusedSimpArgs false
open Go.RowKit

/-- A source of draws in a block of the call's own: a row of bytes that came in, a place in it, a number. -/
def Src (w0 W : World) (b : Nat) : Prop := ∃ (a : Option Addr) (len cap : Nat) (zs : List Int) (p : Nat) (h : Int),
  W.heap[b]? = some (.cells #[.slice a len cap, .int .i64 (p : Int), .int .u64 h] 158) ∧ IsRow .u8 w0 a len cap zs ∧ p ≤ len ∧ len ≤ 1048576 ∧ 0 ≤ h ∧ h < 18446744073709551616 ∧ w0.heap.size ≤ b

theorem wrap_u64 (y : Int) : IntKind.u64.wrap y = y % 18446744073709551616 := by
  unfold IntKind.wrap
  simp [show IntKind.u64.signed = false from rfl, show IntKind.u64.bits = 64 from rfl]
theorem wrap_in (y : Int) : 0 ≤ IntKind.u64.wrap y ∧ IntKind.u64.wrap y < 18446744073709551616 := by
  rw [wrap_u64]
  omega
theorem and_bound (y : Int) : 0 ≤ wrap64 (bits .and .u64 y 16777215) ∧ wrap64 (bits .and .u64 y 16777215) ≤ 16777215 := by
  have h : bits .and .u64 y 16777215 = IntKind.u64.wrap ((BitVec.ofInt 64 y &&& BitVec.ofInt 64 16777215).toNat : Int) := rfl
  have h2 : (BitVec.ofInt 64 y &&& BitVec.ofInt 64 16777215).toNat ≤ 16777215 := by
    rw [BitVec.toNat_and]
    exact Nat.le_trans Nat.and_le_right (by decide)
  rw [h, wrap_u64]
  unfold wrap64
  omega
/-- The three cells of a source. -/
theorem src_cells {W : World} {b : Nat} {x y z : Value} {t : TypeId} (hb : W.heap[b]? = some (.cells #[x, y, z] t)) :
    W.cell? ⟨b, 0, none⟩ = some x ∧ W.cell? ⟨b, 1, none⟩ = some y ∧ W.cell? ⟨b, 2, none⟩ = some z ∧ W.frozen? ⟨b, 0, none⟩ = false ∧ W.frozen? ⟨b, 1, none⟩ = false ∧ W.frozen? ⟨b, 2, none⟩ = false := by
  simp [World.cell?, World.frozen?, hb]
theorem src_set2 {W : World} {b : Nat} {x y z : Value} {t : TypeId} (hb : W.heap[b]? = some (.cells #[x, y, z] t)) (v : Value) : (W.setCell ⟨b, 2, none⟩ v).heap[b]? = some (.cells #[x, y, v] t) := by
  obtain ⟨hlt, hk⟩ := Array.getElem?_eq_some_iff.1 hb
  show (W.heap.modify b _)[b]? = _
  rw [Array.getElem?_eq_getElem (by rw [Array.size_modify]; exact hlt), Array.getElem_modify_self, hk]
  rfl
theorem src_set1 {W : World} {b : Nat} {x y z : Value} {t : TypeId} (hb : W.heap[b]? = some (.cells #[x, y, z] t)) (v : Value) : (W.setCell ⟨b, 1, none⟩ v).heap[b]? = some (.cells #[x, v, z] t) := by
  obtain ⟨hlt, hk⟩ := Array.getElem?_eq_some_iff.1 hb
  show (W.heap.modify b _)[b]? = _
  rw [Array.getElem?_eq_getElem (by rw [Array.size_modify]; exact hlt), Array.getElem_modify_self, hk]
  rfl
theorem grown_set0 {w w' : World} {g : Nat} (h : w.grownBy w' (some g)) (j : Nat) (u : Value) : w.grownBy (w'.setCell ⟨g, j, none⟩ u) (some g) := grown_set h j u
theorem grown_drewN {w w' : World} {r : Option Nat} (h : w.grownBy w' r) (n : Nat) : w.grownBy (w'.drewN n) r := ⟨h.os, h.tape, h.output, h.size, h.block⟩

set_option maxRecDepth 100000 in
set_option maxHeartbeats 1000000 in
theorem l01Next_any (w0 W : World) (b : Nat) (n : Int) (hS : Src w0 W b) (hB : Below w0.heap.size w0 W) (hn : n ≤ 4611686018427387904) (hn2 : -4611686018427387905 ≤ n) :
    Calls Try.prog 105 #[.pointer (some ⟨b, 0, none⟩), .int .i64 n] W fun e W' => ∃ v : Int, e = .returned (.int .i64 v) ∧ (n < 1 → v = 0) ∧ (1 ≤ n → 0 ≤ v ∧ v < n) ∧ Src w0 W' b ∧ W.grownBy W' (some b) := by
  by_cases h1 : n < 1
  · have HS := Lib.hid hS
    clear hS
    go_enter Try.func105, Try.ntmps105
    go_wp2
    go_ret
    exact ⟨0, rfl, fun _ => rfl, fun h => by omega, HS.out, grown_refl _ _⟩
  · obtain ⟨a, len, cap, zs, p, h, hb, hR, hp, hl, h0, h64, hwb⟩ := hS
    have c0 : W.cell? ⟨b, 0, none⟩ = some (.slice a len cap) := by simp [World.cell?, hb]
    have c1 : W.cell? ⟨b, 1, none⟩ = some (.int .i64 (p : Int)) := by simp [World.cell?, hb]
    have c2 : W.cell? ⟨b, 2, none⟩ = some (.int .u64 h) := by simp [World.cell?, hb]
    have f1 : W.frozen? ⟨b, 1, none⟩ = false := by simp [World.frozen?, hb]
    have f2 : W.frozen? ⟨b, 2, none⟩ = false := by simp [World.frozen?, hb]
    have hw1 := wrap_in (IntKind.u64.wrap (h * 6364136223846793005) + 1442695040888963407)
    have hbd := and_bound (IntKind.u64.wrap (IntKind.u64.wrap (h * 6364136223846793005) + 1442695040888963407) / 8589934592)
    by_cases hpl : p < len
    · obtain ⟨y, rfl, hz1, hz2, hcell, hwf⟩ : ∃ y, a = some y ∧ p < cap ∧ cap ≤ maxLen ∧ w0.cell? (y.add p) = some (.int .u8 (zs.getD p 0)) ∧ (0 ≤ zs.getD p 0 ∧ zs.getD p 0 ≤ 255) := by
        rcases hR with ⟨_, h2, _⟩ | ⟨y, h2, h3, h4, h5, h6, h7⟩
        · omega
        · refine ⟨y, h2, by omega, h4, h6 p (by omega), ?_⟩
          have hm := h7 (zs.getD p 0) (by rw [List.getD_eq_getElem?_getD, List.getElem?_eq_getElem (by omega)]; exact List.getElem_mem _)
          have : (IntKind.u8.min ≤ zs.getD p 0 ∧ zs.getD p 0 ≤ IntKind.u8.max) := by simpa [Lit.wf] using hm
          exact this
      have HR := Lib.hid hR
      clear hR
      generalize zs.getD p 0 = z at *
      go_enter Try.func105, Try.ntmps105
      go_wp2
      generalize wrap64 (bits .and .u64 (IntKind.u64.wrap (IntKind.u64.wrap (h * 6364136223846793005) + 1442695040888963407) / 8589934592) 16777215) = x at hbd ⊢
      generalize hh : IntKind.u64.wrap (IntKind.u64.wrap (h * 6364136223846793005) + 1442695040888963407) = h2 at hw1 ⊢
      have hb2 := src_set2 hb (.int .u64 h2)
      have hg2 := grown_set (grown_refl W (some b)) 2 (.int .u64 h2)
      have hB2 := hB.grown hg2 hB.size (fun k e => by cases e; exact hwb)
      have hzc : (W.setCell ⟨b, 2, none⟩ (.int .u64 h2)).cell? (y.add p) = some (.int .u8 z) := by rw [hB2.cell (World.block_lt_of_cell? _ _ hcell)]; exact hcell
      clear c0 c1 c2 f1 f2 hb hcell
      generalize W.setCell ⟨b, 2, none⟩ (.int .u64 h2) = W1 at hb2 hg2 hB2 hzc ⊢
      obtain ⟨c0, c1, c2, f0, f1, f2⟩ := src_cells hb2
      have hpl2 : (p : Int) < (len : Int) := by omega
      go_quiet (fail)
      go_wp2
      go_quiet (fail)
      go_wp2
      go_ret
      exact ⟨(x + z) % n, rfl, fun h => by omega, fun _ => ⟨Int.emod_nonneg _ (by omega), Int.emod_lt_of_pos _ (by omega)⟩, ⟨some y, len, cap, zs, p + 1, h2, by rw [show ((p + 1 : Nat) : Int) = (p : Int) + 1 by omega]; exact src_set1 hb2 _, HR.out, by omega, hl, hw1.1, hw1.2, hwb⟩, grown_set (grown_drewN hg2 _) 1 _⟩
    · go_enter Try.func105, Try.ntmps105
      go_wp2
      generalize wrap64 (bits .and .u64 (IntKind.u64.wrap (IntKind.u64.wrap (h * 6364136223846793005) + 1442695040888963407) / 8589934592) 16777215) = x at hbd ⊢
      generalize hh : IntKind.u64.wrap (IntKind.u64.wrap (h * 6364136223846793005) + 1442695040888963407) = h2 at hw1 ⊢
      have hb2 := src_set2 hb (.int .u64 h2)
      have hg2 := grown_set (grown_refl W (some b)) 2 (.int .u64 h2)
      clear c0 c1 c2 f1 f2 hb
      generalize W.setCell ⟨b, 2, none⟩ (.int .u64 h2) = W1 at hb2 hg2 ⊢
      obtain ⟨c0, c1, c2, f0, f1, f2⟩ := src_cells hb2
      have hpl2 : ¬ (p : Int) < (len : Int) := by omega
      go_quiet (fail)
      go_wp2
      go_ret
      exact ⟨x % n, rfl, fun h => by omega, ⟨Int.emod_nonneg _ (by omega), Int.emod_lt_of_pos _ (by omega)⟩, ⟨a, len, cap, zs, p, h2, hb2, hR, hp, hl, hw1.1, hw1.2, hwb⟩, grown_drewN hg2 _⟩

end Go.Proofs.Ytbhgghajbdlfkab

/-! ### WordOfPlain -/
namespace Go.Proofs.Ytbhgghajbdlfkab
set_option linter.unusedVariables false
set_option linter.unusedSimpArgs false
open Go.RowKit

def okN (L : List Int) : Prop := ∀ j (h : j < L.length), 0 ≤ L[j]'h ∧ L[j]'h ≤ 4
instance (L : List Int) : Decidable (okN L) := by unfold okN; exact inferInstance
def okTo (L : List Int) (k : Nat) : Prop := ∀ j (h : j < L.length), j < k → 0 ≤ L[j]'h ∧ L[j]'h ≤ 4
theorem okTo.zero (L : List Int) : okTo L 0 := fun _ _ h => by omega
theorem okTo.succ {L : List Int} {k : Nat} (h : okTo L k) (hk : k < L.length) (h1 : 0 ≤ L[k]'hk) (h2 : L[k]'hk ≤ 4) : okTo L (k + 1) := by
  intro i hi hik
  by_cases e : i = k
  · subst e; exact ⟨h1, h2⟩
  · exact h i hi (by omega)
theorem okTo.whole {L : List Int} {k : Nat} (h : okTo L k) (hk : L.length ≤ k) : okN L := fun i hi => h i hi (by omega)
theorem okN_nil : okN [] := fun _ h => by simp at h
def letB (n : Int) : UInt8 := UInt8.ofNat (97 + n.toNat)
theorem letB_nat {n : Int} (h0 : 0 ≤ n) (h4 : n ≤ 4) : ((letB n).toNat : Int) = 97 + n := by
  unfold letB
  rw [UInt8.toNat_ofNat', Nat.mod_eq_of_lt (by omega)]
  omega
def wordL (L : List Int) : List UInt8 := L.map letB
def wordB (L : List Int) : ByteArray := ⟨(wordL L).toArray⟩
theorem wordL_snoc (L : List Int) (k : Nat) (h : k < L.length) : wordL (L.take k) ++ [letB (L[k]'h)] = wordL (L.take (k + 1)) := by
  rw [List.take_succ_eq_append_getElem h]
  unfold wordL
  rw [List.map_append]
  rfl
theorem wordL_len (L : List Int) (k : Nat) (h : k ≤ L.length) : (wordL (L.take k)).length = k := by simp [wordL]; omega
theorem runeCells_letter {n : Int} (h0 : 0 ≤ n) (h4 : n ≤ 4) : Lib.runeCells (97 + n) = Lib.byteCells [letB n] := by
  unfold Lib.runeCells Lib.byteCells
  rw [Lib.encodeRuneZ_one (by omega) (by omega)]
  simp [letB_nat h0 h4]
def wolR (L : List Int) : ByteArray × Int := if 60 < L.length ∨ ¬ okN L then (tE, 2) else (wordB L, 0)
theorem wolR_bad {L : List Int} (h : 60 < L.length ∨ ¬ okN L) : wolR L = (⟨#[]⟩, 2) := if_pos h
theorem wolR_ok {L : List Int} (h : L.length ≤ 60) (h2 : okN L) : wolR L = (wordB L, 0) := if_neg (by intro h3; rcases h3 with h3 | h3; omega; exact h3 h2)
theorem wordB_push (L : List Int) (k : Nat) (h : k < L.length) : (⟨(wordL (L.take k)).toArray⟩ : ByteArray) ++ ⟨#[letB (L[k]'h)]⟩ = ⟨(wordL (L.take (k + 1))).toArray⟩ := by
  apply ByteArray.ext
  rw [ByteArray.data_append]
  rw [← wordL_snoc L k h]
  simp

end Go.Proofs.Ytbhgghajbdlfkab

/-! ### Letter -/
namespace Go.Proofs.Ytbhgghajbdlfkab
set_option linter.unusedVariables false
set_option linter.unusedSimpArgs false
open Go.RowKit

set_option maxRecDepth 100000 in
theorem l01Letter_any (n : Int) (w : World) (h0 : 0 ≤ n) (h4 : n ≤ 4) :
    Calls Try.prog 149 #[.int .i64 n] w fun e w' => e = .returned (.string ⟨#[letB n]⟩) ∧ Below w.heap.size w w' := by
  have hb := letB_nat h0 h4
  have hcv : (convert 31 9 (.slice (some ⟨w.heap.size, 0, none⟩) 1 1)).run Try.prog (w.alloc (.cells #[.int .u8 (97 + n)] 5)) = .ok (.string ⟨#[letB n]⟩) (w.alloc (.cells #[.int .u8 (97 + n)] 5)) := by
    refine run_convert_bytes_back _ _ _ 5 _ _ [letB n] Try.underlying31 Try.underlying5 Try.underlying9 ?_
    intro j hj
    match j, hj with
    | 0, _ =>
      rw [← hb]
      simp [Addr.add, World.cell?_alloc_new]
  clear hb
  go_enter Try.func149, Try.ntmps149
  go_wp2
  go_ret
  exact ⟨rfl, Below.new _ _⟩

end Go.Proofs.Ytbhgghajbdlfkab

/-! ### Draw -/
namespace Go.Proofs.Ytbhgghajbdlfkab
set_option linter.unusedVariables false
set_option linter.unusedSimpArgs false
open Go.RowKit

theorem Src.lt {w0 W : World} {b : Nat} (h : Src w0 W b) : b < W.heap.size := by
  obtain ⟨_, _, _, _, _, _, hb, _⟩ := h
  exact (Array.getElem?_eq_some_iff.1 hb).1
theorem Src.ge {w0 W : World} {b : Nat} (h : Src w0 W b) : w0.heap.size ≤ b := by
  obtain ⟨_, _, _, _, _, _, _, _, _, _, _, _, h⟩ := h
  exact h
theorem Src.below {w0 W W' : World} {b : Nat} (h : Src w0 W b) (k : Below W.heap.size W W') : Src w0 W' b := by
  have hl := h.lt
  obtain ⟨a, len, cap, zs, p, q, hb, r⟩ := h
  exact ⟨a, len, cap, zs, p, q, by rw [k.block b hl]; exact hb, r⟩
theorem grown_of_below {W W' : World} (k : Below W.heap.size W W') (r : Option Nat) : W.grownBy W' r := ⟨k.os, k.tape, k.output, k.size, fun j hj _ => k.block j hj⟩
theorem grown_trans {A B C : World} {r : Option Nat} (h : A.grownBy B r) (k : B.grownBy C r) : A.grownBy C r :=
  ⟨k.os.trans h.os, k.tape.trans h.tape, k.output.trans h.output, Nat.le_trans h.size k.size, fun j hj hne => (k.block j (Nat.lt_of_lt_of_le hj h.size) hne).trans (h.block j hj hne)⟩
theorem below_src {w0 W W' : World} {b : Nat} (hB : Below w0.heap.size w0 W) (hb : w0.heap.size ≤ b) (g : W.grownBy W' (some b)) : Below w0.heap.size w0 W' :=
  hB.grown g hB.size (fun k e => by cases e; exact hb)

theorem grown_cell {W W1 : World} {r : Option Nat} (g : W.grownBy W1 r) {p : Addr} (hp : p.block < W.heap.size) (hne : some p.block ≠ r) : W1.cell? p = W.cell? p := by
  unfold World.cell?
  rw [g.block _ hp hne]
/-- What a drawing function that hands back a text comes to: some text of at most N bytes. -/
def DrawnT (N : Nat) (w0 W : World) (b : Nat) (e : Ending) (W' : World) : Prop := ∃ x : ByteArray, e = .returned (.string x) ∧ x.size ≤ N ∧ Src w0 W' b ∧ W.grownBy W' (some b)
def DrawnI (lo hi : Int) (w0 W : World) (b : Nat) (e : Ending) (W' : World) : Prop := ∃ v : Int, e = .returned (.int .i64 v) ∧ lo ≤ v ∧ v ≤ hi ∧ Src w0 W' b ∧ W.grownBy W' (some b)

/-- The next number. -/
theorem l01Next_i (w0 W : World) (b : Nat) (n : Int) (hS : Src w0 W b) (hB : Below w0.heap.size w0 W) (h1 : 1 ≤ n) (hn : n ≤ 4611686018427387904) :
    Calls Try.prog 105 #[.pointer (some ⟨b, 0, none⟩), .int .i64 n] W (DrawnI 0 (n - 1) w0 W b) := by
  refine (l01Next_any w0 W b n hS hB hn (by omega)).mono ?_
  rintro e W' ⟨v, rfl, _, h2, h3, h4⟩
  have h5 := h2 h1
  exact ⟨v, rfl, h5.1, by omega, h3, h4⟩
theorem l01Next_0 (w0 W : World) (b : Nat) (n : Int) (hS : Src w0 W b) (hB : Below w0.heap.size w0 W) (h1 : 0 ≤ n) (hn : n ≤ 4611686018427387904) :
    Calls Try.prog 105 #[.pointer (some ⟨b, 0, none⟩), .int .i64 n] W (DrawnI 0 n w0 W b) := by
  refine (l01Next_any w0 W b n hS hB hn (by omega)).mono ?_
  rintro e W' ⟨v, rfl, h1', h2, h3, h4⟩
  refine ⟨v, rfl, ?_, ?_, h3, h4⟩
  · by_cases h : n < 1
    · rw [h1' h]; exact Int.le_refl _
    · exact (h2 (by omega)).1
  · by_cases h : n < 1
    · rw [h1' h]; omega
    · have := (h2 (by omega)).2; omega

theorem cells_new_ints (W : World) (xs : List Int) (t : TypeId) : ∀ j (h : j < xs.length), (W.alloc (.cells (xs.map (Value.int .i64)).toArray t)).cell? ⟨W.heap.size, j, none⟩ = some (.int .i64 (xs[j]'h)) := by
  intro j h
  rw [World.cell?_alloc_new]
  simp [h]

set_option maxRecDepth 100000 in
theorem l01Pick_any (w0 W : World) (b g : Nat) (xs : List Int) (hS : Src w0 W b) (hB : Below w0.heap.size w0 W) (hg : g < W.heap.size) (hgb : g ≠ b) (h0 : 0 < xs.length) (hn : xs.length ≤ 60)
    (hc : ∀ j (h : j < xs.length), W.cell? ⟨g, j, none⟩ = some (.int .i64 (xs[j]'h))) :
    Calls Try.prog 106 #[.pointer (some ⟨b, 0, none⟩), .slice (some ⟨g, 0, none⟩) xs.length xs.length] W fun e W' => ∃ v : Int, e = .returned (.int .i64 v) ∧ v ∈ xs ∧ Src w0 W' b ∧ W.grownBy W' (some b) := by
  have CN := Lib.hid (l01Next_i w0 W b xs.length hS hB (by omega) (by omega))
  have HC := Lib.hid hc
  clear hc hS
  go_enter Try.func106, Try.ntmps106
  go_wp2_with fail
  refine CN.out.mono ?_
  rintro e W1 ⟨v, rfl, v0, v1, s1, g1⟩
  obtain ⟨m, rfl⟩ := Int.eq_ofNat_of_zero_le v0
  have hm : m < xs.length := by omega
  have k1 : W1.cell? ⟨g, m, none⟩ = some (.int .i64 (xs[m]'hm)) := by
    rw [grown_cell g1 (p := ⟨g, m, none⟩) hg (fun e => hgb (Option.some.inj e))]; exact HC.out m hm
  have HM := Lib.hid (List.getElem_mem hm)
  generalize xs[m]'hm = z at k1 HM
  go_wp2
  go_ret
  exact ⟨z, rfl, HM.out, s1, g1⟩

set_option maxRecDepth 100000 in
set_option maxHeartbeats 1000000 in
theorem l01DrawOf_any (w0 W : World) (b : Nat) (n k : Int) (hS : Src w0 W b) (hB : Below w0.heap.size w0 W) (hn : n ≤ 100) (hn0 : 0 ≤ n) (hk1 : 1 ≤ k) (hk5 : k ≤ 5) :
    Calls Try.prog 135 #[.pointer (some ⟨b, 0, none⟩), .int .i64 n, .int .i64 k] W fun e W' => ∃ x : ByteArray, e = .returned (.string x) ∧ (x.size : Int) = n ∧ Src w0 W' b ∧ W.grownBy W' (some b) := by
  have HB0 := hS.ge
  obtain ⟨N, rfl⟩ := Int.eq_ofNat_of_zero_le hn0
  go_enter Try.func135, Try.ntmps135
  go_wp2
  go_loopg [7, 8] N (fun g s7 s8 wr => ∃ (j : Nat) (x : ByteArray), j + g = N ∧ x.size = j ∧ s7 = .string x ∧ s8 = .int .i64 (j : Int) ∧ Src w0 wr b ∧ W.grownBy wr (some b))
  case atStart => exact ⟨0, ⟨#[]⟩, by omega, rfl, rfl, rfl, hS, grown_refl _ _⟩
  case round =>
    clear hS
    obtain ⟨j, x, hj, hx, rfl, rfl, hS, hG⟩ := hrel
    by_cases hp : j < N
    · obtain ⟨g, rfl⟩ : ∃ g, gk = g + 1 := ⟨gk - 1, by omega⟩
      have hB1 := below_src hB HB0 hG
      have CN := Lib.hid (l01Next_i w0 wr b k hS hB1 hk1 (by omega))
      clear hS
      go_wp2_with fail
      refine CN.out.mono ?_
      rintro e W1 ⟨v, rfl, v0, v1, s1, g1⟩
      go_wp2_with fail
      refine (l01Letter_any v _ v0 (by omega)).mono ?_
      rintro e W2 ⟨rfl, b2⟩
      have e1 : (⟨#[letB v]⟩ : ByteArray).size = 1 := rfl
      generalize (⟨#[letB v]⟩ : ByteArray) = t at *
      have hsum : ∀ W, (Op.stringOp .add x t).run Try.prog W = .ok (.string (x ++ t)) W := fun W => run_string_add_sum W x t (by omega)
      have s2 := s1.below b2
      have g2 := grown_trans (grown_trans hG g1) (grown_of_below b2 (some b))
      have hz : (x ++ t).size = j + 1 := by rw [ByteArray.size_append]; omega
      go_wp2_with fail
      go_roundg g
      case measure => omega
      case rel => exact ⟨j + 1, x ++ t, by omega, hz, rfl, by go_num, s2, g2⟩
    · have hN : Hid (j = N) := Lib.hid (by omega)
      go_wp2
      go_ret
      exact ⟨x, rfl, by have := hN.out; omega, hS, hG⟩

set_option maxRecDepth 100000 in
set_option maxHeartbeats 1000000 in
theorem l01Small_any (w0 W : World) (b : Nat) (hS : Src w0 W b) (hB : Below w0.heap.size w0 W) :
    Calls Try.prog 107 #[.pointer (some ⟨b, 0, none⟩)] W (DrawnT 10 w0 W b) := by
  have HB0 := hS.ge
  have CN := Lib.hid (l01Next_i w0 W b 11 hS hB (by omega) (by omega))
  clear hS
  go_enter Try.func107, Try.ntmps107
  go_wp2_with fail
  refine CN.out.mono ?_
  rintro e W1 ⟨v, rfl, v0, v1, s1, g1⟩
  have hB1 := below_src hB HB0 g1
  have hbl := s1.lt
  go_wp2_with fail
  refine (l01Pick_any w0 _ b _ [1, 2, 2, 2, 3, 5] (s1.below (Below.new _ _)) (hB1.alloc hB1.size _) (by simp) (by omega) (by decide) (by decide) (cells_new_ints W1 [1, 2, 2, 2, 3, 5] _)).mono ?_
  rintro e W2 ⟨k, rfl, hk, s2, g2⟩
  have hB2 := below_src (hB1.alloc hB1.size _) HB0 g2
  have hk2 : 1 ≤ k ∧ k ≤ 5 := by simp at hk; omega
  have g3 := grown_trans g1 (grown_trans (grown_of_below (Below.new W1 _) (some b)) g2)
  clear hk
  go_wp2_with fail
  refine (l01DrawOf_any w0 _ b v k s2 hB2 (by omega) v0 hk2.1 hk2.2).mono ?_
  rintro e W3 ⟨x, rfl, hx, s3, g4⟩
  go_wp2_with fail
  go_ret
  exact ⟨x, rfl, by omega, s3, grown_trans g3 g4⟩

end Go.Proofs.Ytbhgghajbdlfkab

/-! ### Draw2 -/
namespace Go.Proofs.Ytbhgghajbdlfkab
set_option linter.unusedVariables false
set_option linter.unusedSimpArgs false
open Go.RowKit

set_option maxRecDepth 100000 in
set_option maxHeartbeats 2000000 in
theorem l01From_any (a : Option Addr) (len cap : Nat) (zs : List Int) (w : World) (h : IsRow .u8 w a len cap zs) (hl : len ≤ 1048576) :
    Calls Try.prog 103 #[.slice a len cap] w fun e w' => e = .returned (.pointer (some ⟨w.heap.size, 0, none⟩)) ∧ Src w w' w.heap.size ∧ Below w.heap.size w w' := by
  have HR := Lib.hid h
  have hby : ∀ j, j < len → ∃ y z, a = some y ∧ j < cap ∧ w.cell? (y.add j) = some (.int .u8 z) ∧ 0 ≤ z ∧ z ≤ 255 := by
    intro j hj
    rcases h with ⟨_, h2, _⟩ | ⟨y, h2, h3, h4, h5, h6, h7⟩
    · omega
    · have hm := h7 (zs.getD j 0) (by rw [List.getD_eq_getElem?_getD, List.getElem?_eq_getElem (by omega)]; exact List.getElem_mem _)
      have : (IntKind.u8.min ≤ zs.getD j 0 ∧ zs.getD j 0 ≤ IntKind.u8.max) := by simpa [Lit.wf] using hm
      exact ⟨y, _, h2, by omega, h6 j (by omega), this.1, this.2⟩
  have HY := Lib.hid hby
  clear h hby
  go_enter Try.func103, Try.ntmps103
  go_wp2
  go_loopg [4] len (fun g s4 wr => ∃ (j : Nat) (q : Int), j + g = len ∧ s4 = .int .i64 (j : Int) ∧ wr.heap[w.heap.size]? = some (.cells #[.slice a len cap, .int .i64 0, .int .u64 q] 158) ∧ 0 ≤ q ∧ q < 18446744073709551616 ∧ Below w.heap.size w wr)
  case atStart =>
    refine ⟨0, _, by omega, rfl, World.alloc_heap_new w _, ?_, ?_, Below.new _ _⟩
    · omega
    · omega
  case round =>
    obtain ⟨j, q, hj, rfl, hb, q0, q1, hB⟩ := hrel
    by_cases hp : j < len
    · by_cases hp2 : (j : Int) < 4096
      · obtain ⟨g, rfl⟩ : ∃ g, gk = g + 1 := ⟨gk - 1, by omega⟩
        obtain ⟨y, z, rfl, hjc, hcell, z0, z1⟩ := HY.out j hp
        have hzc : wr.cell? (y.add j) = some (.int .u8 z) := by rw [hB.cell (World.block_lt_of_cell? _ _ hcell)]; exact hcell
        have hwi := wrap_in (IntKind.u64.wrap (IntKind.u64.wrap (q * 1099511628211) + z) + 211)
        obtain ⟨c0, c1, c2, f0, f1, f2⟩ := src_cells hb
        have hpl : (j : Int) < (len : Int) := by omega
        go_wp2
        go_region
        have hb2 := src_set2 hb (.int .u64 (IntKind.u64.wrap (IntKind.u64.wrap (IntKind.u64.wrap (q * 1099511628211) + z) + 211)))
        have hB2 : Below w.heap.size w (wr.setCell ⟨w.heap.size, 2, none⟩ (.int .u64 (IntKind.u64.wrap (IntKind.u64.wrap (IntKind.u64.wrap (q * 1099511628211) + z) + 211)))) := hB.setCell (p := ⟨w.heap.size, 2, none⟩) (Nat.le_refl _) _
        go_wp2
        go_roundg g
        case measure => omega
        case rel => exact ⟨j + 1, _, by omega, by go_num, hb2, hwi.1, hwi.2, hB2.drew⟩
      · go_wp2
        go_ret
        exact ⟨rfl, ⟨a, len, cap, zs, 0, q, hb, HR.out, by omega, hl, q0, q1, Nat.le_refl _⟩, hB⟩
    · go_wp2
      go_ret
      exact ⟨rfl, ⟨a, len, cap, zs, 0, q, hb, HR.out, by omega, hl, q0, q1, Nat.le_refl _⟩, hB⟩

set_option maxRecDepth 100000 in
set_option maxHeartbeats 1000000 in
theorem l01Near_any (w0 W : World) (b : Nat) (most : Int) (hS : Src w0 W b) (hB : Below w0.heap.size w0 W) (h0 : 0 ≤ most) (h1 : most ≤ 1000000000) :
    Calls Try.prog 114 #[.pointer (some ⟨b, 0, none⟩), .int .i64 most] W (DrawnI (-4611686018427387904) 1099511627776 w0 W b) := by
  have HB0 := hS.ge
  have CN := Lib.hid (l01Next_i w0 W b 14 hS hB (by omega) (by omega))
  clear hS
  go_enter Try.func114, Try.ntmps114
  go_wp2_with fail
  refine CN.out.mono ?_
  rintro e W1 ⟨v, rfl, v0, v1, s1, g1⟩
  have hB1 := below_src hB HB0 g1
  have hbl := s1.lt
  by_cases hv : v = 0
  · go_wp2_with fail
    refine (l01Pick_any w0 _ b _ [-1, most + 1, 1099511627776, -4611686018427387904] (s1.below (Below.new _ _)) (hB1.alloc hB1.size _) (by simp) (by omega) (by simp) (by simp) (cells_new_ints W1 [-1, most + 1, 1099511627776, -4611686018427387904] _)).mono ?_
    rintro e W2 ⟨k, rfl, hk, s2, g2⟩
    have hk2 : -4611686018427387904 ≤ k ∧ k ≤ 1099511627776 := by simp at hk; omega
    go_wp2_with fail
    go_ret
    exact ⟨k, rfl, hk2.1, hk2.2, s2, grown_trans g1 (grown_trans (grown_of_below (Below.new W1 _) (some b)) g2)⟩
  · have CM := Lib.hid (l01Next_i w0 W1 b (most + 1) s1 hB1 (by omega) (by omega))
    go_wp2_with fail
    refine CM.out.mono ?_
    rintro e W2 ⟨k, rfl, k0, k1, s2, g2⟩
    go_wp2_with fail
    go_ret
    exact ⟨k, rfl, by omega, by omega, s2, grown_trans g1 g2⟩

theorem cells_new_strs (W : World) (xs : List ByteArray) (t : TypeId) : ∀ j (h : j < xs.length), (W.alloc (.cells (xs.map Value.string).toArray t)).cell? ⟨W.heap.size, j, none⟩ = some (.string (xs[j]'h)) := by
  intro j h
  rw [World.cell?_alloc_new]
  simp [h]
def signsL : List ByteArray := [⟨#[97]⟩, ⟨#[98]⟩, ⟨#[99]⟩, ⟨#[101]⟩, ⟨#[102]⟩, ⟨#[65]⟩, ⟨#[32]⟩, ⟨#[44]⟩, ⟨#[48]⟩, ⟨#[10]⟩]
theorem signsL_size : ∀ j (h : j < signsL.length), (signsL[j]'h).size = 1 := by
  intro j h
  match j, h with
  | 0, _ | 1, _ | 2, _ | 3, _ | 4, _ | 5, _ | 6, _ | 7, _ | 8, _ | 9, _ => rfl
  | j + 10, h => simp [signsL] at h; omega

set_option maxRecDepth 100000 in
set_option maxHeartbeats 1000000 in
theorem l01Damage_any (w0 W : World) (b : Nat) (x : ByteArray) (hS : Src w0 W b) (hB : Below w0.heap.size w0 W) (hx : x.size ≤ 1000) :
    Calls Try.prog 137 #[.pointer (some ⟨b, 0, none⟩), .string x] W (DrawnT (x.size + 1) w0 W b) := by
  have HB0 := hS.ge
  have hbl0 := hS.lt
  have CN := Lib.hid (l01Next_i w0 _ b 10 (hS.below (Below.new W (.cells (signsL.map Value.string).toArray 9))) (hB.alloc hB.size _) (by omega) (by omega))
  have HC := Lib.hid (cells_new_strs W signsL 9)
  have HB1 := Lib.hid (hB.alloc hB.size (.cells (signsL.map Value.string).toArray 9))
  have HG := Lib.hid (grown_of_below (Below.new W (.cells (signsL.map Value.string).toArray 9)) (some b))
  have hz : (W.alloc (.cells (signsL.map Value.string).toArray 9)).heap.size = W.heap.size + 1 := by simp
  clear hS
  go_enter Try.func137, Try.ntmps137
  go_wp2_with fail
  refine CN.out.mono ?_
  rintro e W1 ⟨v, rfl, v0, v1, s1, g1⟩
  obtain ⟨m, rfl⟩ := Int.eq_ofNat_of_zero_le v0
  have hm : m < signsL.length := by simp [signsL]; omega
  have k1 : W1.cell? ⟨W.heap.size, m, none⟩ = some (.string (signsL[m]'hm)) := by
    rw [grown_cell g1 (p := ⟨W.heap.size, m, none⟩) (by show W.heap.size < _; omega) (fun e => by have h : W.heap.size = b := Option.some.inj e; omega)]; exact HC.out m hm
  have hcs := signsL_size m hm
  have hB1 := below_src HB1.out HB0 g1
  have g2 := grown_trans HG.out g1
  have hm10 : (m : Int) < 10 := by omega
  generalize signsL[m]'hm = c at k1 hcs
  clear g1 hz
  by_cases h0 : x.size = 0
  · have hx0 : (x.size : Int) = 0 := by omega
    go_wp2_with fail
    go_ret
    exact ⟨c, rfl, by omega, s1, g2⟩
  · have CM := Lib.hid (l01Next_i w0 W1 b x.size s1 hB1 (by omega) (by omega))
    have hx0 : ¬ (x.size : Int) = 0 := by omega
    go_wp2_with fail
    refine CM.out.mono ?_
    rintro e W2 ⟨k, rfl, k0, k1, s2, g3⟩
    obtain ⟨n, rfl⟩ := Int.eq_ofNat_of_zero_le k0
    have hn : n < x.size := by omega
    have hB2 := below_src hB1 HB0 g3
    have g4 := grown_trans g2 g3
    have CK := Lib.hid (l01Next_i w0 W2 b 3 s2 hB2 (by omega) (by omega))
    have hsl1 := fun W => slice_to x (n : Int) n rfl (by omega) W
    have hsl2 := fun W => slice_from x ((n : Int) + 1) (n + 1) (by omega) (by omega) W
    have hsl3 := fun W => slice_from x (n : Int) n rfl (by omega) W
    have z1 : (x.extract 0 n).size = n := by simp; omega
    have z2 : (x.extract (n + 1) x.size).size = x.size - (n + 1) := by simp
    have z3 : (x.extract n x.size).size = x.size - n := by simp
    generalize x.extract 0 n = x1 at *
    generalize x.extract (n + 1) x.size = x2 at *
    generalize x.extract n x.size = x3 at *
    have hsum1 : ∀ W, (Op.stringOp .add x1 c).run Try.prog W = .ok (.string (x1 ++ c)) W := fun W => run_string_add_sum W _ _ (by omega)
    have y1 : (x1 ++ c).size = n + 1 := by rw [ByteArray.size_append]; omega
    have hsum2 : ∀ W, (Op.stringOp .add (x1 ++ c) x2).run Try.prog W = .ok (.string (x1 ++ c ++ x2)) W := fun W => run_string_add_sum W _ _ (by omega)
    have y2 : (x1 ++ c ++ x2).size = x.size := by rw [ByteArray.size_append]; omega
    have hsum3 : ∀ W, (Op.stringOp .add x1 x2).run Try.prog W = .ok (.string (x1 ++ x2)) W := fun W => run_string_add_sum W _ _ (by omega)
    have y3 : (x1 ++ x2).size = x.size - 1 := by rw [ByteArray.size_append]; omega
    have hsum4 : ∀ W, (Op.stringOp .add (x1 ++ c) x3).run Try.prog W = .ok (.string (x1 ++ c ++ x3)) W := fun W => run_string_add_sum W _ _ (by omega)
    have y4 : (x1 ++ c ++ x3).size = x.size + 1 := by rw [ByteArray.size_append]; omega
    generalize x1 ++ x2 = o3 at *
    generalize x1 ++ c ++ x2 = o2 at *
    generalize x1 ++ c ++ x3 = o4 at *
    generalize x1 ++ c = o1 at *
    go_wp2_with fail
    refine CK.out.mono ?_
    rintro e W3 ⟨q, rfl, q0, q1, s3, g5⟩
    have g6 := grown_trans g4 g5
    have s4 := fun n => (s3.below ((Below.refl _ W3).drewN n))
    by_cases hq0 : q = 0
    · subst hq0
      go_wp2_with fail
      go_quiet (fail)
      go_wp2
      go_ret
      exact ⟨o2, rfl, by omega, s4 _, grown_drewN g6 _⟩
    · by_cases hq1 : q = 1
      · subst hq1
        go_wp2_with fail
        go_quiet (fail)
        go_wp2
        go_ret
        exact ⟨o3, rfl, by omega, s4 _, grown_drewN g6 _⟩
      · go_wp2_with fail
        go_quiet (fail)
        go_wp2
        go_ret
        exact ⟨o4, rfl, by omega, s4 _, grown_drewN g6 _⟩

set_option maxRecDepth 100000 in
set_option maxHeartbeats 1000000 in
theorem l01Bad_any (w0 W : World) (b : Nat) (x : ByteArray) (hS : Src w0 W b) (hB : Below w0.heap.size w0 W) (hx : x.size ≤ 900) :
    Calls Try.prog 108 #[.pointer (some ⟨b, 0, none⟩), .string x] W (DrawnT (x.size + 64) w0 W b) := by
  have HB0 := hS.ge
  have CN := Lib.hid (l01Next_i w0 W b 50 hS hB (by omega) (by omega))
  clear hS
  go_enter Try.func108, Try.ntmps108
  go_wp2_with fail
  refine CN.out.mono ?_
  rintro e W1 ⟨v, rfl, v0, v1, s1, g1⟩
  have hB1 := below_src hB HB0 g1
  by_cases h0 : v = 0
  · subst h0
    have hsum : ∀ W, (Op.stringOp .add x ⟨#[102]⟩).run Try.prog W = .ok (.string (x ++ ⟨#[102]⟩)) W := fun W => run_string_add_sum W _ _ (by show x.size + 1 ≤ _; omega)
    have y1 : (x ++ (⟨#[102]⟩ : ByteArray)).size = x.size + 1 := by rw [ByteArray.size_append]; rfl
    generalize x ++ (⟨#[102]⟩ : ByteArray) = o1 at *
    go_wp2_with fail
    go_ret
    exact ⟨o1, rfl, by omega, s1, g1⟩
  · by_cases h1 : v = 1
    · subst h1
      have CD := Lib.hid (l01Damage_any w0 W1 b x s1 hB1 (by omega))
      go_wp2_with fail
      refine CD.out.mono ?_
      rintro e W2 ⟨y, rfl, hy, s2, g2⟩
      go_wp2_with fail
      go_ret
      exact ⟨y, rfl, by omega, s2, grown_trans g1 g2⟩
    · by_cases h2 : v = 2
      · subst h2
        go_wp2_with fail
        go_loopg [1] 61 (fun g s1 wr => ∃ y : ByteArray, 61 ≤ g + y.size ∧ y.size ≤ x.size + 62 ∧ s1 = .string y ∧ wr = W1)
        case atStart => exact ⟨x, by omega, by omega, rfl, rfl⟩
        case round =>
          obtain ⟨y, hy1, hy2, rfl, rfl⟩ := hrel
          by_cases hp : y.size ≤ 60
          · obtain ⟨g, rfl⟩ : ∃ g, gk = g + 1 := ⟨gk - 1, by omega⟩
            have hsum : ∀ W, (Op.stringOp .add y ⟨#[97, 98]⟩).run Try.prog W = .ok (.string (y ++ ⟨#[97, 98]⟩)) W := fun W => run_string_add_sum W _ _ (by show y.size + 2 ≤ _; omega)
            have y1 : (y ++ (⟨#[97, 98]⟩ : ByteArray)).size = y.size + 2 := by rw [ByteArray.size_append]; rfl
            generalize y ++ (⟨#[97, 98]⟩ : ByteArray) = o1 at *
            go_wp2
            go_roundg g
            case measure => omega
            case rel => exact ⟨o1, by omega, by omega, rfl, by first | rfl | trivial⟩
          · go_wp2
            go_ret
            exact ⟨y, rfl, by omega, s1, g1⟩
      · go_wp2_with fail
        go_ret
        exact ⟨x, rfl, by omega, s1, g1⟩

end Go.Proofs.Ytbhgghajbdlfkab

/-! ### WordOf -/
namespace Go.Proofs.Ytbhgghajbdlfkab
set_option linter.unusedVariables false
set_option linter.unusedSimpArgs false
open Go.RowKit

end Go.Proofs.Ytbhgghajbdlfkab

/-! ### WordOfS -/
namespace Go.Proofs.Ytbhgghajbdlfkab
set_option linter.unusedVariables false
set_option linter.unusedSimpArgs false
open Go.RowKit

set_option maxRecDepth 100000 in
theorem l01In_yes' (n lo hi : Int) (w : World) (h1 : lo ≤ n) (h2 : n ≤ hi) :
    Calls Try.prog 47 #[.int .i64 n, .int .i64 lo, .int .i64 hi] w fun e w' => e = .returned (.bool true) ∧ w = w' := by
  go_enter Try.func47, Try.ntmps47
  go_wp2
  go_ret
  exact ⟨ret_bool (by simp [*]), rfl⟩

set_option maxRecDepth 100000 in
theorem l01In_no' (n lo hi : Int) (w : World) (h : ¬ (lo ≤ n ∧ n ≤ hi)) :
    Calls Try.prog 47 #[.int .i64 n, .int .i64 lo, .int .i64 hi] w fun e w' => e = .returned (.bool false) ∧ w = w' := by
  by_cases h1 : lo ≤ n
  · have h2 : hi < n := by omega
    clear h
    go_enter Try.func47, Try.ntmps47
    go_wp2
    go_ret
    exact ⟨ret_bool (by simp; omega), rfl⟩
  · have h2 : n < lo := by omega
    clear h h1
    go_enter Try.func47, Try.ntmps47
    go_wp2
    go_ret
    exact ⟨rfl, rfl⟩

end Go.Proofs.Ytbhgghajbdlfkab

/-! ### NamedPlain -/
namespace Go.Proofs.Ytbhgghajbdlfkab
set_option linter.unusedVariables false
set_option linter.unusedSimpArgs false
open Go.RowKit

def bt (l : List UInt8) : ByteArray := ⟨l.toArray⟩
theorem bt_size (l : List UInt8) : (bt l).size = l.length := rfl
theorem bt_app (a b : List UInt8) : bt a ++ bt b = bt (a ++ b) := by
  apply ByteArray.ext
  rw [ByteArray.data_append]
  simp [bt]
theorem bt_take (l : List UInt8) (m : Nat) : (bt l).extract 0 m = bt (l.take m) := by
  apply ByteArray.ext
  rw [ByteArray.data_extract]
  simp [bt]
def imgs : Nat → List (List UInt8)
  | 0 => [[97, 98], [97]]
  | 1 => [[97, 98], [98, 97]]
  | 2 => [[97, 98], [97, 97]]
  | _ => [[97, 98, 99], [97, 99], [98]]
def img (I : List (List UInt8)) (c : UInt8) : List UInt8 := I.getD (c.toNat - 97) []
def implRun (I : List (List UInt8)) (m : Nat) : Nat → List UInt8 → Nat → List UInt8
  | 0, l, _ => l
  | f + 1, l, i => if l.length < m then implRun I m f (l ++ img I (l.getD i 0)) (i + 1) else l
def specRun (I : List (List UInt8)) (m : Nat) : Nat → List UInt8 → List UInt8
  | 0, l => l
  | f + 1, l => if l.length < m then specRun I m f (l.flatMap (img I)) else l
def namedI (d m : Nat) : List UInt8 := implRun (imgs d) m 60 ((imgs d).getD 0 []) 1
def namedS (d m : Nat) : List UInt8 := specRun (imgs d) m 60 [97]
theorem named_eq : ∀ d, d < 4 → ∀ m, m < 61 → (namedI d m).take m = (namedS d m).take m := by decide +kernel
theorem implRun_step {I : List (List UInt8)} {m f i : Nat} {l : List UInt8} (h : l.length < m) : implRun I m (f + 1) l i = implRun I m f (l ++ img I (l.getD i 0)) (i + 1) := by rw [implRun, if_pos h]
theorem implRun_end {I : List (List UInt8)} {m f i : Nat} {l : List UInt8} (h : ¬ l.length < m) : implRun I m f l i = l := by
  cases f with
  | zero => rfl
  | succ f => rw [implRun, if_neg h]
theorem specRun_step {I : List (List UInt8)} {m f : Nat} {l : List UInt8} (h : l.length < m) : specRun I m (f + 1) l = specRun I m f (l.flatMap (img I)) := by rw [specRun, if_pos h]
theorem specRun_end {I : List (List UInt8)} {m f : Nat} {l : List UInt8} (h : ¬ l.length < m) : specRun I m f l = l := by
  cases f with
  | zero => rfl
  | succ f => rw [specRun, if_neg h]
/-- All letters have images. -/
def lets (I : List (List UInt8)) (l : List UInt8) : Prop := ∀ c ∈ l, 97 ≤ c.toNat ∧ c.toNat - 97 < I.length
instance (I : List (List UInt8)) (l : List UInt8) : Decidable (lets I l) := by unfold lets; exact inferInstance
def goodI (I : List (List UInt8)) : Prop := (∀ s ∈ I, 1 ≤ s.length ∧ s.length ≤ 3 ∧ lets I s) ∧ 2 ≤ I.length ∧ I.length ≤ 3 ∧ 2 ≤ (I.getD 0 []).length ∧ (I.getD 0 []).getD 0 0 = 97
instance (I : List (List UInt8)) : Decidable (goodI I) := by unfold goodI; exact inferInstance
theorem imgs_good : ∀ d, d < 4 → goodI (imgs d) := by decide +kernel
theorem img_mem {I : List (List UInt8)} {c : UInt8} (h : c.toNat - 97 < I.length) : img I c ∈ I := by
  unfold img
  rw [List.getD_eq_getElem?_getD, List.getElem?_eq_getElem h]
  exact List.getElem_mem h
theorem lets_app {I : List (List UInt8)} {a b : List UInt8} (ha : lets I a) (hb : lets I b) : lets I (a ++ b) := by
  intro c hc
  rcases List.mem_append.1 hc with h | h
  · exact ha c h
  · exact hb c h
theorem lets_flat {I : List (List UInt8)} (g : goodI I) {l : List UInt8} (h : lets I l) : lets I (l.flatMap (img I)) := by
  intro c hc
  rw [List.mem_flatMap] at hc
  obtain ⟨x, hx, hc⟩ := hc
  exact (g.1 _ (img_mem (h x hx).2)).2.2 c hc
theorem flat_len {I : List (List UInt8)} (g : goodI I) : ∀ {l : List UInt8}, lets I l → l.length ≤ (l.flatMap (img I)).length ∧ (l.flatMap (img I)).length ≤ 3 * l.length
  | [], _ => by simp
  | c :: l, h => by
    have h1 := flat_len g (l := l) (fun x hx => h x (List.mem_cons_of_mem _ hx))
    have h2 := g.1 _ (img_mem (h c (List.mem_cons_self ..)).2)
    rw [List.flatMap_cons, List.length_append, List.length_cons]
    omega
theorem flat_grows {I : List (List UInt8)} (g : goodI I) {l : List UInt8} (h : lets I l) (h0 : l.getD 0 0 = 97) (hl : 0 < l.length) : l.length < (l.flatMap (img I)).length ∧ (l.flatMap (img I)).getD 0 0 = 97 := by
  cases l with
  | nil => simp at hl
  | cons c l =>
    have hc : c = 97 := by simpa using h0
    subst hc
    have h1 := flat_len g (l := l) (fun x hx => h x (List.mem_cons_of_mem _ hx))
    have h2 : img I 97 = I.getD 0 [] := rfl
    have h3 := g.2.2.2.1
    have h4 := g.2.2.2.2
    rw [List.flatMap_cons, List.length_append, List.length_cons, h2]
    refine ⟨by omega, ?_⟩
    rw [List.getD_eq_getElem?_getD, List.getElem?_append_left (by omega), ← List.getD_eq_getElem?_getD]
    exact h4
theorem flat_take {I : List (List UInt8)} (l : List UInt8) (i : Nat) (h : i < l.length) : (l.take (i + 1)).flatMap (img I) = (l.take i).flatMap (img I) ++ img I (l[i]'h) := by
  rw [List.take_succ_eq_append_getElem h, List.flatMap_append]
  simp
def idOf (s : ByteArray) : Option Nat := if s.toList = [102, 105, 98, 111, 110, 97, 99, 99, 105] then some 0 else if s.toList = [116, 104, 117, 101] then some 1 else if s.toList = [100, 111, 117, 98, 108, 105, 110, 103] then some 2 else if s.toList = [116, 114, 105, 112, 108, 101] then some 3 else none
def namedR (s : ByteArray) (m : Int) : ByteArray × Int := if m < 0 ∨ 60 < m then (tE, 2) else match idOf s with
  | none => (tE, 4)
  | some d => (bt ((namedS d m.toNat).take m.toNat), 0)
theorem namedR_out {s : ByteArray} {m : Int} (h : m < 0 ∨ 60 < m) : namedR s m = (⟨#[]⟩, 2) := if_pos h
theorem namedR_none {s : ByteArray} {m : Int} (h : ¬ (m < 0 ∨ 60 < m)) (h2 : idOf s = none) : namedR s m = (⟨#[]⟩, 4) := by unfold namedR; rw [if_neg h, h2]; rfl
theorem namedR_some {s : ByteArray} {m : Nat} {d : Nat} (h : m ≤ 60) (h2 : idOf s = some d) : namedR s (m : Int) = (bt ((namedS d m).take m), 0) := by unfold namedR; rw [if_neg (by omega), h2]; rfl
/-- The five ways in which a name is looked up, as the comparisons come out. -/
def way (s : ByteArray) (d : Nat) : Prop := (s.toList == [102, 105, 98, 111, 110, 97, 99, 99, 105]) = decide (d = 0) ∧ (1 ≤ d → (s.toList == [116, 104, 117, 101]) = decide (d = 1)) ∧ (2 ≤ d → (s.toList == [100, 111, 117, 98, 108, 105, 110, 103]) = decide (d = 2)) ∧ (3 ≤ d → (s.toList == [116, 114, 105, 112, 108, 101]) = decide (d = 3))
theorem way_of (s : ByteArray) : (idOf s = none ∧ way s 4) ∨ ∃ d, d < 4 ∧ idOf s = some d ∧ way s d := by
  unfold idOf way
  by_cases h0 : s.toList = [102, 105, 98, 111, 110, 97, 99, 99, 105]
  · exact .inr ⟨0, by omega, by rw [if_pos h0], by simp [h0], fun h => by omega, fun h => by omega, fun h => by omega⟩
  · by_cases h1 : s.toList = [116, 104, 117, 101]
    · exact .inr ⟨1, by omega, by rw [if_neg h0, if_pos h1], by simp [h0], fun _ => by simp [h1], fun h => by omega, fun h => by omega⟩
    · by_cases h2 : s.toList = [100, 111, 117, 98, 108, 105, 110, 103]
      · exact .inr ⟨2, by omega, by rw [if_neg h0, if_neg h1, if_pos h2], by simp [h0], fun _ => by simp [h1], fun _ => by simp [h2], fun h => by omega⟩
      · by_cases h3 : s.toList = [116, 114, 105, 112, 108, 101]
        · exact .inr ⟨3, by omega, by rw [if_neg h0, if_neg h1, if_neg h2, if_pos h3], by simp [h0], fun _ => by simp [h1], fun _ => by simp [h2], fun _ => by simp [h3]⟩
        · exact .inl ⟨by rw [if_neg h0, if_neg h1, if_neg h2, if_neg h3], by simp [h0], fun _ => by simp [h1], fun _ => by simp [h2], fun _ => by simp [h3]⟩

end Go.Proofs.Ytbhgghajbdlfkab

/-! ### Named -/
namespace Go.Proofs.Ytbhgghajbdlfkab
set_option linter.unusedVariables false
set_option linter.unusedSimpArgs false
open Go.RowKit

def szOf : Value → Nat
  | .string t => t.size
  | _ => 0
theorem OwnS.rowS {w : World} {B : Nat} {v : Value} {I : List (List UInt8)} (h : OwnS w B v (I.map bt)) (hn : 0 < I.length) :
    ∃ g cap, v = .slice (some ⟨g, 0, none⟩) I.length cap ∧ g < w.heap.size ∧ I.length ≤ cap ∧ (∀ j (hj : j < I.length), w.cell? ⟨g, j, none⟩ = some (.string (bt (I[j]'hj)))) := by
  obtain ⟨g, cap, hv, _, hg, hc, _, cell, _⟩ := OwnS.row h (by simpa using hn)
  rw [List.length_map] at hv hc
  refine ⟨g, cap, hv, hg, hc, fun j hj => ?_⟩
  rw [cell j (by simpa using hj), List.getElem_map]


set_option maxRecDepth 100000 in
set_option maxHeartbeats 2000000 in
theorem images_some (s : ByteArray) (d : Nat) (w : World) (hd : d < 4) (hw : way s d) :
    Calls Try.prog 57 #[.string s] w fun e w' => ∃ v, e = .returned v ∧ OwnS w' w.heap.size v ((imgs d).map bt) ∧ Below w.heap.size w w' := by
  rcases (show d = 0 ∨ d = 1 ∨ d = 2 ∨ d = 3 by omega) with rfl | rfl | rfl | rfl
  · obtain ⟨t0, t1, t2, t3⟩ := hw
    clear t1 t2 t3
    simp at t0
    go_enter Try.func57, Try.ntmps57
    go_wp2
    go_ret
    exact ⟨_, rfl, World.ownsRow_lit w #[.string ⟨#[97, 98]⟩, .string ⟨#[97]⟩] 2 (Nat.le_refl _) (by decide) (by simp), Below.new _ _⟩
  · obtain ⟨t0, t1, t2, t3⟩ := hw
    have t1 := t1 (by omega)
    clear t2 t3
    simp at t0 t1
    go_enter Try.func57, Try.ntmps57
    go_wp2
    go_ret
    exact ⟨_, rfl, World.ownsRow_lit w #[.string ⟨#[97, 98]⟩, .string ⟨#[98, 97]⟩] 2 (Nat.le_refl _) (by decide) (by simp), Below.new _ _⟩
  · obtain ⟨t0, t1, t2, t3⟩ := hw
    have t1 := t1 (by omega)
    have t2 := t2 (by omega)
    clear t3
    simp at t0 t1 t2
    go_enter Try.func57, Try.ntmps57
    go_wp2
    go_ret
    exact ⟨_, rfl, World.ownsRow_lit w #[.string ⟨#[97, 98]⟩, .string ⟨#[97, 97]⟩] 2 (Nat.le_refl _) (by decide) (by simp), Below.new _ _⟩
  · obtain ⟨t0, t1, t2, t3⟩ := hw
    have t1 := t1 (by omega)
    have t2 := t2 (by omega)
    have t3 := t3 (by omega)
    clear hd
    simp at t0 t1 t2 t3
    go_enter Try.func57, Try.ntmps57
    go_wp2
    go_ret
    exact ⟨_, rfl, World.ownsRow_lit w #[.string ⟨#[97, 98, 99]⟩, .string ⟨#[97, 99]⟩, .string ⟨#[98]⟩] 3 (Nat.le_refl _) (by decide) (by simp), Below.new _ _⟩

set_option maxRecDepth 100000 in
theorem images_none (s : ByteArray) (w : World) (hw : way s 4) :
    Calls Try.prog 57 #[.string s] w fun e w' => e = .returned (.slice none 0 0) ∧ Below w.heap.size w w' := by
  obtain ⟨t0, t1, t2, t3⟩ := hw
  have t1 := t1 (by omega)
  have t2 := t2 (by omega)
  have t3 := t3 (by omega)
  rw [show decide (4 = 0) = false from rfl] at t0
  rw [show decide (4 = 1) = false from rfl] at t1
  rw [show decide (4 = 2) = false from rfl] at t2
  rw [show decide (4 = 3) = false from rfl] at t3
  go_enter Try.func57, Try.ntmps57
  go_wp2
  go_ret
  exact ⟨rfl, Below.refl _ _⟩

end Go.Proofs.Ytbhgghajbdlfkab

/-! ### NamedS -/
namespace Go.Proofs.Ytbhgghajbdlfkab
set_option linter.unusedVariables false
set_option linter.unusedSimpArgs false
open Go.RowKit

set_option maxRecDepth 100000 in
set_option maxHeartbeats 4000000 in
theorem l01Named_none (s : ByteArray) (m : Int) (w : World) (hw : way s 4) :
    Calls Try.prog 58 #[.string s, .int .i64 m] w fun e w' => e = .returned (.tuple #[.string ⟨#[]⟩, .bool false]) ∧ Below w.heap.size w w' := by
  obtain ⟨t0, t1, t2, t3⟩ := hw
  have t1 := t1 (by omega)
  have t2 := t2 (by omega)
  have t3 := t3 (by omega)
  rw [show decide (4 = 0) = false from rfl] at t0
  rw [show decide (4 = 1) = false from rfl] at t1
  rw [show decide (4 = 2) = false from rfl] at t2
  rw [show decide (4 = 3) = false from rfl] at t3
  go_enter Try.func58, Try.ntmps58
  go_wp2
  go_ret2
  exact ⟨rfl, Below.new _ _⟩

set_option maxRecDepth 100000 in
set_option maxHeartbeats 8000000 in
theorem l01Named_some (s : ByteArray) (m d : Nat) (w : World) (hd : d < 4) (hm : m ≤ 60) (hw : way s d) :
    Calls Try.prog 58 #[.string s, .int .i64 (m : Int)] w fun e w' => e = .returned (.tuple #[.string (bt ((namedS d m).take m)), .bool true]) ∧ Below w.heap.size w w' := by
  rcases (show d = 0 ∨ d = 1 ∨ d = 2 ∨ d = 3 by omega) with rfl | rfl | rfl | rfl
  · obtain ⟨t0, t1, t2, t3⟩ := hw
    clear t1 t2 t3
    simp at t0
    go_enter Try.func58, Try.ntmps58
    go_wp2_with fail
    obtain ⟨W1, hW1⟩ : ∃ W1 : World, W1 = (w.alloc (.cells #[] 9)).alloc (.cells #[.string ⟨#[97, 98]⟩, .string ⟨#[97]⟩] 9) := ⟨_, rfl⟩
    have o1 : OwnS W1 (w.heap.size + 1) (.slice (some ⟨w.heap.size + 1, 0, none⟩) 2 2) ((imgs 0).map bt) := by
      have h := World.ownsRow_lit (base := w.heap.size + 1) (size := 1) (w.alloc (.cells #[] 9)) #[.string ⟨#[97, 98]⟩, .string ⟨#[97]⟩] 2 (e := 9) (by simp) (by decide) rfl
      rw [show (w.alloc (.cells #[] 9)).heap.size = w.heap.size + 1 by simp] at h
      rw [hW1]
      exact h
    have B1 : Below w.heap.size w W1 := by rw [hW1]; exact (Below.new _ _).alloc (by simp) _
    have hsz1 : W1.heap.size = w.heap.size + 2 := by rw [hW1]; simp
    rw [← hW1]
    have HZ1 := Lib.hid hsz1
    have HG := Lib.hid (imgs_good 0 (by omega))
    have HI : Hid (specRun (imgs 0) m 60 [97] = namedS 0 m) := Lib.hid rfl
    have hIn : (imgs 0).length = 2 := rfl
    obtain ⟨g, cap, hv, hg, _, cell⟩ := o1.rowS (by rw [hIn]; omega)
    have hgv : g = w.heap.size + 1 := by injection hv with h1; injection h1 with h1; injection h1 with h1; exact h1.symm
    subst hgv
    have C := Lib.hid cell
    clear hW1 o1 cell hv hsz1 hg
    generalize hIm : imgs 0 = I at *
    have hIle : I.length ≤ 2 := by omega
    clear hIm hIn
    have hbz1 := B1.size
    have hgl : w.heap.size + 1 < W1.heap.size := by have := HZ1.out; omega
    go_wp2_with fail
    go_loopw [7] (fun o wr => ∃ (f : Nat) (l : List UInt8) (t : ByteArray), o = .string t ∧ Hid (t = bt l) ∧ Hid (t.size = l.length) ∧ t.size ≤ 180 ∧ 1 ≤ l.length ∧ m ≤ l.length + f ∧ Hid (lets I l) ∧ Hid (l.getD 0 0 = 97) ∧ Below W1.heap.size W1 wr ∧ Hid (specRun I m f l = namedS 0 m)) (fun o _ => m - szOf o)
    case atStart => exact ⟨60, [97], bt [97], rfl, Lib.hid rfl, Lib.hid rfl, by show 1 ≤ 180; omega, by show 1 ≤ 1; omega, by show m ≤ 1 + 60; omega, Lib.hid (fun c hc => by simp at hc; subst hc; have := HG.out.2.1; exact ⟨by decide, by show 97 - 97 < _; omega⟩), Lib.hid rfl, Below.refl _ _, HI⟩
    case round =>
      obtain ⟨f, l, t, rfl, HT, HS, ht180, hl1, hf, HL, H97, hB, HR⟩ := hrel
      obtain ⟨wo, rfl⟩ : ∃ wo : World, wo = wr := ⟨_, rfl⟩
      have hts := HS.out
      by_cases hlt : l.length < m
      · obtain ⟨f, rfl⟩ : ∃ k, f = k + 1 := ⟨f - 1, by omega⟩
        have hltm : (t.size : Int) < (m : Int) := by omega
        have hstep := specRun_step (I := I) (f := f) hlt
        have HST := Lib.hid hstep
        have hgr := flat_grows HG.out HL.out H97.out (by omega)
        have HGR := Lib.hid hgr
        have HLF := Lib.hid (lets_flat HG.out HL.out)
        have hfl := (flat_len HG.out HL.out).2
        have ht60 : t.size ≤ 60 := by omega
        clear hstep hgr
        go_wp2_with fail
        go_loopw [8, 9] (fun u q wr => ∃ (i : Nat) (r : ByteArray), q = .int .i64 i ∧ u = .string r ∧ Hid (r = bt ((l.take i).flatMap (img I))) ∧ r.size ≤ 3 * i ∧ i ≤ l.length ∧ Below W1.heap.size W1 wr) (fun _ q _ => l.length - (intOf q).toNat)
        case atStart => exact ⟨0, ⟨#[]⟩, rfl, rfl, Lib.hid rfl, by show 0 ≤ _; omega, Nat.zero_le _, hB⟩
        case round =>
          clear hB
          obtain ⟨i, r, rfl, rfl, HRR, hr3, hil, hB⟩ := hrel
          by_cases hi : i < l.length
          · have hit : i < t.size := by omega
            have hti : t[i]'hit = l[i]'hi := by
              have h2 : i < (bt l).size := hi
              have h3 : (bt l)[i]'h2 = l[i]'hi := rfl
              have h4 : t[i]'hit = (bt l)[i]'h2 := by
                have := HT.out
                subst this
                rfl
              rw [h4, h3]
            have hle := HL.out (l[i]'hi) (List.getElem_mem _)
            have hmem := img_mem hle.2
            have hgi := HG.out.1 _ hmem
            have hft := flat_take (I := I) l i hi
            have hcell := C.out _ hle.2
            rw [show I[(l[i]'hi).toNat - 97]'hle.2 = img I (l[i]'hi) by unfold img; rw [List.getD_eq_getElem?_getD, List.getElem?_eq_getElem hle.2]; rfl] at hcell
            rw [← hti] at hle hgi hcell hft
            generalize hrg : img I (t[i]'hit) = rr at *
            obtain ⟨a1, a2⟩ := hle
            obtain ⟨r1, r3, hrl⟩ := hgi
            obtain ⟨n, hn⟩ : ∃ n : Nat, ((t[i]'hit).toNat : Int) = (n : Int) + 97 := ⟨(t[i]'hit).toNat - 97, by omega⟩
            have hnn : (t[i]'hit).toNat - 97 = n := by omega
            rw [hnn] at hcell a2
            have E1 : Hid (((t[i]'hit).toNat : Int) - 97 = n) := Lib.hid (by omega)
            have hn2 : n < 2 := by omega
            have happ : r ++ bt rr = bt ((l.take (i + 1)).flatMap (img I)) := by rw [HRR.out, bt_app, hft]
            have hrs : (bt rr).size = rr.length := rfl
            have HAP := Lib.hid happ
            generalize hbr : bt rr = tr at *
            have htr : tr.size ≤ 3 := by omega
            have hasz : (r ++ tr).size = r.size + tr.size := ByteArray.size_append
            have HAS := Lib.hid hasz
            have HC := Lib.hid hcell
            clear hti hmem hft hrg hrl hnn happ hrs hbr hasz hn hcell
            go_wp2_with fail
            refine (l01At_any t i _ hit ht60).mono ?_
            rintro e w2 ⟨rfl, b2⟩
            rw [E1.out]
            have hB2 := hB.then b2
            have kc : w2.cell? ⟨w.heap.size + 1, n, none⟩ = some (.string tr) := by rw [(bcell hB2).1 _ n hgl]; exact HC.out
            go_wp2_with fail
            go_roundw
            case rel => exact ⟨i + 1, r ++ tr, by go_num, rfl, HAP, by have := HAS.out; omega, by omega, hB2⟩
            case measure => simp [intOf]; omega
          · have hE : i = l.length := by omega
            have HN : Hid (r = bt (l.flatMap (img I))) := Lib.hid (by rw [HRR.out, hE, List.take_of_length_le (Nat.le_refl _)])
            have hrz : r.size = (l.flatMap (img I)).length := by rw [HN.out]; rfl
            have HRZ := Lib.hid hrz
            clear hE hrz
            go_wp2_with fail
            go_roundw
            case rel =>
              have q1 := HRZ.out
              have q2 := HGR.out.1
              exact ⟨f, l.flatMap (img I), r, rfl, HN, HRZ, by omega, by omega, by omega, HLF, Lib.hid HGR.out.2, hB, Lib.hid (by rw [← HR.out, HST.out])⟩
            case measure =>
              have q1 := HRZ.out
              have q2 := HGR.out.1
              show m - r.size < m - t.size
              omega
      · have hR := HR.out
        rw [specRun_end hlt] at hR
        have hx : t.extract 0 m = bt ((namedS 0 m).take m) := by rw [HT.out, bt_take, hR]
        have HX := Lib.hid hx
        have hge : m ≤ t.size := by omega
        clear hR hx hlt
        go_wp2_with fail
        go_ret2
        exact ⟨by rw [← HX.out]; rfl, B1.then hB⟩
  · obtain ⟨t0, t1, t2, t3⟩ := hw
    have t1 := t1 (by omega)
    clear t2 t3
    simp at t0 t1
    go_enter Try.func58, Try.ntmps58
    go_wp2_with fail
    obtain ⟨W1, hW1⟩ : ∃ W1 : World, W1 = (w.alloc (.cells #[] 9)).alloc (.cells #[.string ⟨#[97, 98]⟩, .string ⟨#[98, 97]⟩] 9) := ⟨_, rfl⟩
    have o1 : OwnS W1 (w.heap.size + 1) (.slice (some ⟨w.heap.size + 1, 0, none⟩) 2 2) ((imgs 1).map bt) := by
      have h := World.ownsRow_lit (base := w.heap.size + 1) (size := 1) (w.alloc (.cells #[] 9)) #[.string ⟨#[97, 98]⟩, .string ⟨#[98, 97]⟩] 2 (e := 9) (by simp) (by decide) rfl
      rw [show (w.alloc (.cells #[] 9)).heap.size = w.heap.size + 1 by simp] at h
      rw [hW1]
      exact h
    have B1 : Below w.heap.size w W1 := by rw [hW1]; exact (Below.new _ _).alloc (by simp) _
    have hsz1 : W1.heap.size = w.heap.size + 2 := by rw [hW1]; simp
    rw [← hW1]
    have HZ1 := Lib.hid hsz1
    have HG := Lib.hid (imgs_good 1 (by omega))
    have HI : Hid (specRun (imgs 1) m 60 [97] = namedS 1 m) := Lib.hid rfl
    have hIn : (imgs 1).length = 2 := rfl
    obtain ⟨g, cap, hv, hg, _, cell⟩ := o1.rowS (by rw [hIn]; omega)
    have hgv : g = w.heap.size + 1 := by injection hv with h1; injection h1 with h1; injection h1 with h1; exact h1.symm
    subst hgv
    have C := Lib.hid cell
    clear hW1 o1 cell hv hsz1 hg
    generalize hIm : imgs 1 = I at *
    have hIle : I.length ≤ 2 := by omega
    clear hIm hIn
    have hbz1 := B1.size
    have hgl : w.heap.size + 1 < W1.heap.size := by have := HZ1.out; omega
    go_wp2_with fail
    go_loopw [7] (fun o wr => ∃ (f : Nat) (l : List UInt8) (t : ByteArray), o = .string t ∧ Hid (t = bt l) ∧ Hid (t.size = l.length) ∧ t.size ≤ 180 ∧ 1 ≤ l.length ∧ m ≤ l.length + f ∧ Hid (lets I l) ∧ Hid (l.getD 0 0 = 97) ∧ Below W1.heap.size W1 wr ∧ Hid (specRun I m f l = namedS 1 m)) (fun o _ => m - szOf o)
    case atStart => exact ⟨60, [97], bt [97], rfl, Lib.hid rfl, Lib.hid rfl, by show 1 ≤ 180; omega, by show 1 ≤ 1; omega, by show m ≤ 1 + 60; omega, Lib.hid (fun c hc => by simp at hc; subst hc; have := HG.out.2.1; exact ⟨by decide, by show 97 - 97 < _; omega⟩), Lib.hid rfl, Below.refl _ _, HI⟩
    case round =>
      obtain ⟨f, l, t, rfl, HT, HS, ht180, hl1, hf, HL, H97, hB, HR⟩ := hrel
      obtain ⟨wo, rfl⟩ : ∃ wo : World, wo = wr := ⟨_, rfl⟩
      have hts := HS.out
      by_cases hlt : l.length < m
      · obtain ⟨f, rfl⟩ : ∃ k, f = k + 1 := ⟨f - 1, by omega⟩
        have hltm : (t.size : Int) < (m : Int) := by omega
        have hstep := specRun_step (I := I) (f := f) hlt
        have HST := Lib.hid hstep
        have hgr := flat_grows HG.out HL.out H97.out (by omega)
        have HGR := Lib.hid hgr
        have HLF := Lib.hid (lets_flat HG.out HL.out)
        have hfl := (flat_len HG.out HL.out).2
        have ht60 : t.size ≤ 60 := by omega
        clear hstep hgr
        go_wp2_with fail
        go_loopw [8, 9] (fun u q wr => ∃ (i : Nat) (r : ByteArray), q = .int .i64 i ∧ u = .string r ∧ Hid (r = bt ((l.take i).flatMap (img I))) ∧ r.size ≤ 3 * i ∧ i ≤ l.length ∧ Below W1.heap.size W1 wr) (fun _ q _ => l.length - (intOf q).toNat)
        case atStart => exact ⟨0, ⟨#[]⟩, rfl, rfl, Lib.hid rfl, by show 0 ≤ _; omega, Nat.zero_le _, hB⟩
        case round =>
          clear hB
          obtain ⟨i, r, rfl, rfl, HRR, hr3, hil, hB⟩ := hrel
          by_cases hi : i < l.length
          · have hit : i < t.size := by omega
            have hti : t[i]'hit = l[i]'hi := by
              have h2 : i < (bt l).size := hi
              have h3 : (bt l)[i]'h2 = l[i]'hi := rfl
              have h4 : t[i]'hit = (bt l)[i]'h2 := by
                have := HT.out
                subst this
                rfl
              rw [h4, h3]
            have hle := HL.out (l[i]'hi) (List.getElem_mem _)
            have hmem := img_mem hle.2
            have hgi := HG.out.1 _ hmem
            have hft := flat_take (I := I) l i hi
            have hcell := C.out _ hle.2
            rw [show I[(l[i]'hi).toNat - 97]'hle.2 = img I (l[i]'hi) by unfold img; rw [List.getD_eq_getElem?_getD, List.getElem?_eq_getElem hle.2]; rfl] at hcell
            rw [← hti] at hle hgi hcell hft
            generalize hrg : img I (t[i]'hit) = rr at *
            obtain ⟨a1, a2⟩ := hle
            obtain ⟨r1, r3, hrl⟩ := hgi
            obtain ⟨n, hn⟩ : ∃ n : Nat, ((t[i]'hit).toNat : Int) = (n : Int) + 97 := ⟨(t[i]'hit).toNat - 97, by omega⟩
            have hnn : (t[i]'hit).toNat - 97 = n := by omega
            rw [hnn] at hcell a2
            have E1 : Hid (((t[i]'hit).toNat : Int) - 97 = n) := Lib.hid (by omega)
            have hn2 : n < 2 := by omega
            have happ : r ++ bt rr = bt ((l.take (i + 1)).flatMap (img I)) := by rw [HRR.out, bt_app, hft]
            have hrs : (bt rr).size = rr.length := rfl
            have HAP := Lib.hid happ
            generalize hbr : bt rr = tr at *
            have htr : tr.size ≤ 3 := by omega
            have hasz : (r ++ tr).size = r.size + tr.size := ByteArray.size_append
            have HAS := Lib.hid hasz
            have HC := Lib.hid hcell
            clear hti hmem hft hrg hrl hnn happ hrs hbr hasz hn hcell
            go_wp2_with fail
            refine (l01At_any t i _ hit ht60).mono ?_
            rintro e w2 ⟨rfl, b2⟩
            rw [E1.out]
            have hB2 := hB.then b2
            have kc : w2.cell? ⟨w.heap.size + 1, n, none⟩ = some (.string tr) := by rw [(bcell hB2).1 _ n hgl]; exact HC.out
            go_wp2_with fail
            go_roundw
            case rel => exact ⟨i + 1, r ++ tr, by go_num, rfl, HAP, by have := HAS.out; omega, by omega, hB2⟩
            case measure => simp [intOf]; omega
          · have hE : i = l.length := by omega
            have HN : Hid (r = bt (l.flatMap (img I))) := Lib.hid (by rw [HRR.out, hE, List.take_of_length_le (Nat.le_refl _)])
            have hrz : r.size = (l.flatMap (img I)).length := by rw [HN.out]; rfl
            have HRZ := Lib.hid hrz
            clear hE hrz
            go_wp2_with fail
            go_roundw
            case rel =>
              have q1 := HRZ.out
              have q2 := HGR.out.1
              exact ⟨f, l.flatMap (img I), r, rfl, HN, HRZ, by omega, by omega, by omega, HLF, Lib.hid HGR.out.2, hB, Lib.hid (by rw [← HR.out, HST.out])⟩
            case measure =>
              have q1 := HRZ.out
              have q2 := HGR.out.1
              show m - r.size < m - t.size
              omega
      · have hR := HR.out
        rw [specRun_end hlt] at hR
        have hx : t.extract 0 m = bt ((namedS 1 m).take m) := by rw [HT.out, bt_take, hR]
        have HX := Lib.hid hx
        have hge : m ≤ t.size := by omega
        clear hR hx hlt
        go_wp2_with fail
        go_ret2
        exact ⟨by rw [← HX.out]; rfl, B1.then hB⟩
  · obtain ⟨t0, t1, t2, t3⟩ := hw
    have t1 := t1 (by omega)
    have t2 := t2 (by omega)
    clear t3
    simp at t0 t1 t2
    go_enter Try.func58, Try.ntmps58
    go_wp2_with fail
    obtain ⟨W1, hW1⟩ : ∃ W1 : World, W1 = (w.alloc (.cells #[] 9)).alloc (.cells #[.string ⟨#[97, 98]⟩, .string ⟨#[97, 97]⟩] 9) := ⟨_, rfl⟩
    have o1 : OwnS W1 (w.heap.size + 1) (.slice (some ⟨w.heap.size + 1, 0, none⟩) 2 2) ((imgs 2).map bt) := by
      have h := World.ownsRow_lit (base := w.heap.size + 1) (size := 1) (w.alloc (.cells #[] 9)) #[.string ⟨#[97, 98]⟩, .string ⟨#[97, 97]⟩] 2 (e := 9) (by simp) (by decide) rfl
      rw [show (w.alloc (.cells #[] 9)).heap.size = w.heap.size + 1 by simp] at h
      rw [hW1]
      exact h
    have B1 : Below w.heap.size w W1 := by rw [hW1]; exact (Below.new _ _).alloc (by simp) _
    have hsz1 : W1.heap.size = w.heap.size + 2 := by rw [hW1]; simp
    rw [← hW1]
    have HZ1 := Lib.hid hsz1
    have HG := Lib.hid (imgs_good 2 (by omega))
    have HI : Hid (specRun (imgs 2) m 60 [97] = namedS 2 m) := Lib.hid rfl
    have hIn : (imgs 2).length = 2 := rfl
    obtain ⟨g, cap, hv, hg, _, cell⟩ := o1.rowS (by rw [hIn]; omega)
    have hgv : g = w.heap.size + 1 := by injection hv with h1; injection h1 with h1; injection h1 with h1; exact h1.symm
    subst hgv
    have C := Lib.hid cell
    clear hW1 o1 cell hv hsz1 hg
    generalize hIm : imgs 2 = I at *
    have hIle : I.length ≤ 2 := by omega
    clear hIm hIn
    have hbz1 := B1.size
    have hgl : w.heap.size + 1 < W1.heap.size := by have := HZ1.out; omega
    go_wp2_with fail
    go_loopw [7] (fun o wr => ∃ (f : Nat) (l : List UInt8) (t : ByteArray), o = .string t ∧ Hid (t = bt l) ∧ Hid (t.size = l.length) ∧ t.size ≤ 180 ∧ 1 ≤ l.length ∧ m ≤ l.length + f ∧ Hid (lets I l) ∧ Hid (l.getD 0 0 = 97) ∧ Below W1.heap.size W1 wr ∧ Hid (specRun I m f l = namedS 2 m)) (fun o _ => m - szOf o)
    case atStart => exact ⟨60, [97], bt [97], rfl, Lib.hid rfl, Lib.hid rfl, by show 1 ≤ 180; omega, by show 1 ≤ 1; omega, by show m ≤ 1 + 60; omega, Lib.hid (fun c hc => by simp at hc; subst hc; have := HG.out.2.1; exact ⟨by decide, by show 97 - 97 < _; omega⟩), Lib.hid rfl, Below.refl _ _, HI⟩
    case round =>
      obtain ⟨f, l, t, rfl, HT, HS, ht180, hl1, hf, HL, H97, hB, HR⟩ := hrel
      obtain ⟨wo, rfl⟩ : ∃ wo : World, wo = wr := ⟨_, rfl⟩
      have hts := HS.out
      by_cases hlt : l.length < m
      · obtain ⟨f, rfl⟩ : ∃ k, f = k + 1 := ⟨f - 1, by omega⟩
        have hltm : (t.size : Int) < (m : Int) := by omega
        have hstep := specRun_step (I := I) (f := f) hlt
        have HST := Lib.hid hstep
        have hgr := flat_grows HG.out HL.out H97.out (by omega)
        have HGR := Lib.hid hgr
        have HLF := Lib.hid (lets_flat HG.out HL.out)
        have hfl := (flat_len HG.out HL.out).2
        have ht60 : t.size ≤ 60 := by omega
        clear hstep hgr
        go_wp2_with fail
        go_loopw [8, 9] (fun u q wr => ∃ (i : Nat) (r : ByteArray), q = .int .i64 i ∧ u = .string r ∧ Hid (r = bt ((l.take i).flatMap (img I))) ∧ r.size ≤ 3 * i ∧ i ≤ l.length ∧ Below W1.heap.size W1 wr) (fun _ q _ => l.length - (intOf q).toNat)
        case atStart => exact ⟨0, ⟨#[]⟩, rfl, rfl, Lib.hid rfl, by show 0 ≤ _; omega, Nat.zero_le _, hB⟩
        case round =>
          clear hB
          obtain ⟨i, r, rfl, rfl, HRR, hr3, hil, hB⟩ := hrel
          by_cases hi : i < l.length
          · have hit : i < t.size := by omega
            have hti : t[i]'hit = l[i]'hi := by
              have h2 : i < (bt l).size := hi
              have h3 : (bt l)[i]'h2 = l[i]'hi := rfl
              have h4 : t[i]'hit = (bt l)[i]'h2 := by
                have := HT.out
                subst this
                rfl
              rw [h4, h3]
            have hle := HL.out (l[i]'hi) (List.getElem_mem _)
            have hmem := img_mem hle.2
            have hgi := HG.out.1 _ hmem
            have hft := flat_take (I := I) l i hi
            have hcell := C.out _ hle.2
            rw [show I[(l[i]'hi).toNat - 97]'hle.2 = img I (l[i]'hi) by unfold img; rw [List.getD_eq_getElem?_getD, List.getElem?_eq_getElem hle.2]; rfl] at hcell
            rw [← hti] at hle hgi hcell hft
            generalize hrg : img I (t[i]'hit) = rr at *
            obtain ⟨a1, a2⟩ := hle
            obtain ⟨r1, r3, hrl⟩ := hgi
            obtain ⟨n, hn⟩ : ∃ n : Nat, ((t[i]'hit).toNat : Int) = (n : Int) + 97 := ⟨(t[i]'hit).toNat - 97, by omega⟩
            have hnn : (t[i]'hit).toNat - 97 = n := by omega
            rw [hnn] at hcell a2
            have E1 : Hid (((t[i]'hit).toNat : Int) - 97 = n) := Lib.hid (by omega)
            have hn2 : n < 2 := by omega
            have happ : r ++ bt rr = bt ((l.take (i + 1)).flatMap (img I)) := by rw [HRR.out, bt_app, hft]
            have hrs : (bt rr).size = rr.length := rfl
            have HAP := Lib.hid happ
            generalize hbr : bt rr = tr at *
            have htr : tr.size ≤ 3 := by omega
            have hasz : (r ++ tr).size = r.size + tr.size := ByteArray.size_append
            have HAS := Lib.hid hasz
            have HC := Lib.hid hcell
            clear hti hmem hft hrg hrl hnn happ hrs hbr hasz hn hcell
            go_wp2_with fail
            refine (l01At_any t i _ hit ht60).mono ?_
            rintro e w2 ⟨rfl, b2⟩
            rw [E1.out]
            have hB2 := hB.then b2
            have kc : w2.cell? ⟨w.heap.size + 1, n, none⟩ = some (.string tr) := by rw [(bcell hB2).1 _ n hgl]; exact HC.out
            go_wp2_with fail
            go_roundw
            case rel => exact ⟨i + 1, r ++ tr, by go_num, rfl, HAP, by have := HAS.out; omega, by omega, hB2⟩
            case measure => simp [intOf]; omega
          · have hE : i = l.length := by omega
            have HN : Hid (r = bt (l.flatMap (img I))) := Lib.hid (by rw [HRR.out, hE, List.take_of_length_le (Nat.le_refl _)])
            have hrz : r.size = (l.flatMap (img I)).length := by rw [HN.out]; rfl
            have HRZ := Lib.hid hrz
            clear hE hrz
            go_wp2_with fail
            go_roundw
            case rel =>
              have q1 := HRZ.out
              have q2 := HGR.out.1
              exact ⟨f, l.flatMap (img I), r, rfl, HN, HRZ, by omega, by omega, by omega, HLF, Lib.hid HGR.out.2, hB, Lib.hid (by rw [← HR.out, HST.out])⟩
            case measure =>
              have q1 := HRZ.out
              have q2 := HGR.out.1
              show m - r.size < m - t.size
              omega
      · have hR := HR.out
        rw [specRun_end hlt] at hR
        have hx : t.extract 0 m = bt ((namedS 2 m).take m) := by rw [HT.out, bt_take, hR]
        have HX := Lib.hid hx
        have hge : m ≤ t.size := by omega
        clear hR hx hlt
        go_wp2_with fail
        go_ret2
        exact ⟨by rw [← HX.out]; rfl, B1.then hB⟩
  · obtain ⟨t0, t1, t2, t3⟩ := hw
    have t1 := t1 (by omega)
    have t2 := t2 (by omega)
    have t3 := t3 (by omega)
    simp at t0 t1 t2 t3
    go_enter Try.func58, Try.ntmps58
    go_wp2_with fail
    obtain ⟨W1, hW1⟩ : ∃ W1 : World, W1 = (w.alloc (.cells #[] 9)).alloc (.cells #[.string ⟨#[97, 98, 99]⟩, .string ⟨#[97, 99]⟩, .string ⟨#[98]⟩] 9) := ⟨_, rfl⟩
    have o1 : OwnS W1 (w.heap.size + 1) (.slice (some ⟨w.heap.size + 1, 0, none⟩) 3 3) ((imgs 3).map bt) := by
      have h := World.ownsRow_lit (base := w.heap.size + 1) (size := 1) (w.alloc (.cells #[] 9)) #[.string ⟨#[97, 98, 99]⟩, .string ⟨#[97, 99]⟩, .string ⟨#[98]⟩] 3 (e := 9) (by simp) (by decide) rfl
      rw [show (w.alloc (.cells #[] 9)).heap.size = w.heap.size + 1 by simp] at h
      rw [hW1]
      exact h
    have B1 : Below w.heap.size w W1 := by rw [hW1]; exact (Below.new _ _).alloc (by simp) _
    have hsz1 : W1.heap.size = w.heap.size + 2 := by rw [hW1]; simp
    rw [← hW1]
    have HZ1 := Lib.hid hsz1
    have HG := Lib.hid (imgs_good 3 (by omega))
    have HI : Hid (specRun (imgs 3) m 60 [97] = namedS 3 m) := Lib.hid rfl
    have hIn : (imgs 3).length = 3 := rfl
    obtain ⟨g, cap, hv, hg, _, cell⟩ := o1.rowS (by rw [hIn]; omega)
    have hgv : g = w.heap.size + 1 := by injection hv with h1; injection h1 with h1; injection h1 with h1; exact h1.symm
    subst hgv
    have C := Lib.hid cell
    clear hW1 o1 cell hv hsz1 hg
    generalize hIm : imgs 3 = I at *
    have hIle : I.length ≤ 3 := by omega
    clear hIm hIn
    have hbz1 := B1.size
    have hgl : w.heap.size + 1 < W1.heap.size := by have := HZ1.out; omega
    go_wp2_with fail
    go_loopw [7] (fun o wr => ∃ (f : Nat) (l : List UInt8) (t : ByteArray), o = .string t ∧ Hid (t = bt l) ∧ Hid (t.size = l.length) ∧ t.size ≤ 180 ∧ 1 ≤ l.length ∧ m ≤ l.length + f ∧ Hid (lets I l) ∧ Hid (l.getD 0 0 = 97) ∧ Below W1.heap.size W1 wr ∧ Hid (specRun I m f l = namedS 3 m)) (fun o _ => m - szOf o)
    case atStart => exact ⟨60, [97], bt [97], rfl, Lib.hid rfl, Lib.hid rfl, by show 1 ≤ 180; omega, by show 1 ≤ 1; omega, by show m ≤ 1 + 60; omega, Lib.hid (fun c hc => by simp at hc; subst hc; have := HG.out.2.1; exact ⟨by decide, by show 97 - 97 < _; omega⟩), Lib.hid rfl, Below.refl _ _, HI⟩
    case round =>
      obtain ⟨f, l, t, rfl, HT, HS, ht180, hl1, hf, HL, H97, hB, HR⟩ := hrel
      obtain ⟨wo, rfl⟩ : ∃ wo : World, wo = wr := ⟨_, rfl⟩
      have hts := HS.out
      by_cases hlt : l.length < m
      · obtain ⟨f, rfl⟩ : ∃ k, f = k + 1 := ⟨f - 1, by omega⟩
        have hltm : (t.size : Int) < (m : Int) := by omega
        have hstep := specRun_step (I := I) (f := f) hlt
        have HST := Lib.hid hstep
        have hgr := flat_grows HG.out HL.out H97.out (by omega)
        have HGR := Lib.hid hgr
        have HLF := Lib.hid (lets_flat HG.out HL.out)
        have hfl := (flat_len HG.out HL.out).2
        have ht60 : t.size ≤ 60 := by omega
        clear hstep hgr
        go_wp2_with fail
        go_loopw [8, 9] (fun u q wr => ∃ (i : Nat) (r : ByteArray), q = .int .i64 i ∧ u = .string r ∧ Hid (r = bt ((l.take i).flatMap (img I))) ∧ r.size ≤ 3 * i ∧ i ≤ l.length ∧ Below W1.heap.size W1 wr) (fun _ q _ => l.length - (intOf q).toNat)
        case atStart => exact ⟨0, ⟨#[]⟩, rfl, rfl, Lib.hid rfl, by show 0 ≤ _; omega, Nat.zero_le _, hB⟩
        case round =>
          clear hB
          obtain ⟨i, r, rfl, rfl, HRR, hr3, hil, hB⟩ := hrel
          by_cases hi : i < l.length
          · have hit : i < t.size := by omega
            have hti : t[i]'hit = l[i]'hi := by
              have h2 : i < (bt l).size := hi
              have h3 : (bt l)[i]'h2 = l[i]'hi := rfl
              have h4 : t[i]'hit = (bt l)[i]'h2 := by
                have := HT.out
                subst this
                rfl
              rw [h4, h3]
            have hle := HL.out (l[i]'hi) (List.getElem_mem _)
            have hmem := img_mem hle.2
            have hgi := HG.out.1 _ hmem
            have hft := flat_take (I := I) l i hi
            have hcell := C.out _ hle.2
            rw [show I[(l[i]'hi).toNat - 97]'hle.2 = img I (l[i]'hi) by unfold img; rw [List.getD_eq_getElem?_getD, List.getElem?_eq_getElem hle.2]; rfl] at hcell
            rw [← hti] at hle hgi hcell hft
            generalize hrg : img I (t[i]'hit) = rr at *
            obtain ⟨a1, a2⟩ := hle
            obtain ⟨r1, r3, hrl⟩ := hgi
            obtain ⟨n, hn⟩ : ∃ n : Nat, ((t[i]'hit).toNat : Int) = (n : Int) + 97 := ⟨(t[i]'hit).toNat - 97, by omega⟩
            have hnn : (t[i]'hit).toNat - 97 = n := by omega
            rw [hnn] at hcell a2
            have E1 : Hid (((t[i]'hit).toNat : Int) - 97 = n) := Lib.hid (by omega)
            have hn2 : n < 3 := by omega
            have happ : r ++ bt rr = bt ((l.take (i + 1)).flatMap (img I)) := by rw [HRR.out, bt_app, hft]
            have hrs : (bt rr).size = rr.length := rfl
            have HAP := Lib.hid happ
            generalize hbr : bt rr = tr at *
            have htr : tr.size ≤ 3 := by omega
            have hasz : (r ++ tr).size = r.size + tr.size := ByteArray.size_append
            have HAS := Lib.hid hasz
            have HC := Lib.hid hcell
            clear hti hmem hft hrg hrl hnn happ hrs hbr hasz hn hcell
            go_wp2_with fail
            refine (l01At_any t i _ hit ht60).mono ?_
            rintro e w2 ⟨rfl, b2⟩
            rw [E1.out]
            have hB2 := hB.then b2
            have kc : w2.cell? ⟨w.heap.size + 1, n, none⟩ = some (.string tr) := by rw [(bcell hB2).1 _ n hgl]; exact HC.out
            go_wp2_with fail
            go_roundw
            case rel => exact ⟨i + 1, r ++ tr, by go_num, rfl, HAP, by have := HAS.out; omega, by omega, hB2⟩
            case measure => simp [intOf]; omega
          · have hE : i = l.length := by omega
            have HN : Hid (r = bt (l.flatMap (img I))) := Lib.hid (by rw [HRR.out, hE, List.take_of_length_le (Nat.le_refl _)])
            have hrz : r.size = (l.flatMap (img I)).length := by rw [HN.out]; rfl
            have HRZ := Lib.hid hrz
            clear hE hrz
            go_wp2_with fail
            go_roundw
            case rel =>
              have q1 := HRZ.out
              have q2 := HGR.out.1
              exact ⟨f, l.flatMap (img I), r, rfl, HN, HRZ, by omega, by omega, by omega, HLF, Lib.hid HGR.out.2, hB, Lib.hid (by rw [← HR.out, HST.out])⟩
            case measure =>
              have q1 := HRZ.out
              have q2 := HGR.out.1
              show m - r.size < m - t.size
              omega
      · have hR := HR.out
        rw [specRun_end hlt] at hR
        have hx : t.extract 0 m = bt ((namedS 3 m).take m) := by rw [HT.out, bt_take, hR]
        have HX := Lib.hid hx
        have hge : m ≤ t.size := by omega
        clear hR hx hlt
        go_wp2_with fail
        go_ret2
        exact ⟨by rw [← HX.out]; rfl, B1.then hB⟩

end Go.Proofs.Ytbhgghajbdlfkab

/-! ### Draw3 -/
namespace Go.Proofs.Ytbhgghajbdlfkab
set_option linter.unusedVariables false
set_option linter.unusedSimpArgs false
open Go.RowKit

def namesL : List ByteArray := [⟨#[102, 105, 98, 111, 110, 97, 99, 99, 105]⟩, ⟨#[116, 104, 117, 101]⟩, ⟨#[100, 111, 117, 98, 108, 105, 110, 103]⟩, ⟨#[116, 114, 105, 112, 108, 101]⟩]
theorem namesL_way : ∀ j (h : j < namesL.length), way (namesL[j]'h) j := by
  intro j h
  match j, h with
  | 0, _ | 1, _ | 2, _ | 3, _ =>
    unfold way
    simp only [ByteArray.toList_eq, namesL, List.getElem_cons_zero, List.getElem_cons_succ]
    decide
  | j + 4, h => simp [namesL] at h; omega

set_option maxRecDepth 100000 in
theorem l01Names_any (w : World) :
    Calls Try.prog 134 #[] w fun e w' => e = .returned (.slice (some ⟨w.heap.size, 0, none⟩) 4 4) ∧ w' = w.alloc (.cells (namesL.map Value.string).toArray 9) := by
  go_enter Try.func134, Try.ntmps134
  go_wp2
  go_ret
  exact ⟨rfl, rfl⟩

theorem names_alloc {W : World} {g : Nat} {o : Obj} (h : ∀ j (h : j < namesL.length), W.cell? ⟨g, j, none⟩ = some (.string (namesL[j]'h))) (hg : g < W.heap.size) : ∀ j (h : j < namesL.length), (W.alloc o).cell? ⟨g, j, none⟩ = some (.string (namesL[j]'h)) := fun j hj => by
  rw [(Below.new W o).cell (p := ⟨g, j, none⟩) hg]; exact h j hj
theorem names_grown {W W' : World} {g b : Nat} (h : ∀ j (h : j < namesL.length), W.cell? ⟨g, j, none⟩ = some (.string (namesL[j]'h))) (hg : g < W.heap.size) (hb : g ≠ b) (k : W.grownBy W' (some b)) : ∀ j (h : j < namesL.length), W'.cell? ⟨g, j, none⟩ = some (.string (namesL[j]'h)) := fun j hj => by
  rw [grown_cell k (p := ⟨g, j, none⟩) hg (fun e => hb (Option.some.inj e))]; exact h j hj

set_option maxRecDepth 100000 in
set_option maxHeartbeats 4000000 in
theorem l01Draw_any (w0 W : World) (b : Nat) (hS : Src w0 W b) (hB : Below w0.heap.size w0 W) :
    Calls Try.prog 104 #[.pointer (some ⟨b, 0, none⟩)] W (DrawnT 60 w0 W b) := by
  have HB0 := hS.ge
  have CN := Lib.hid (l01Next_i w0 W b 6 hS hB (by omega) (by omega))
  clear hS
  go_enter Try.func104, Try.ntmps104
  go_wp2_with fail
  refine CN.out.mono ?_
  rintro e W1 ⟨v, rfl, v0, v1, s1, g1⟩
  have hB1 := below_src hB HB0 g1
  have hbl := s1.lt
  by_cases h0 : v = 0
  · subst h0
    go_wp2_with fail
    refine (l01Names_any _).mono ?_
    rintro e W2 ⟨rfl, hW2⟩
    have s2 : Src w0 W2 b := by rw [hW2]; exact s1.below (Below.new _ _)
    have hB2 : Below w0.heap.size w0 W2 := by rw [hW2]; exact hB1.alloc hB1.size _
    have g2 : W1.grownBy W2 (some b) := by rw [hW2]; exact grown_of_below (Below.new _ _) _
    have hcn : ∀ j (h : j < namesL.length), W2.cell? ⟨W1.heap.size, j, none⟩ = some (.string (namesL[j]'h)) := by rw [hW2]; exact cells_new_strs W1 namesL 9
    have hz2 : W1.heap.size < W2.heap.size := by rw [hW2]; simp
    have hgb : W1.heap.size ≠ b := by omega
    have hcD : ∀ j (h : j < namesL.length), W2.drew.cell? ⟨W1.heap.size, j, none⟩ = some (.string (namesL[j]'h)) := hcn
    have HW := Lib.hid namesL_way
    have hcE : ∀ j (h : j < namesL.length), (W2.alloc (.cells #[.int .i64 12, .int .i64 30, .int .i64 61] 2)).drew.cell? ⟨W1.heap.size, j, none⟩ = some (.string (namesL[j]'h)) := names_alloc hcn hz2
    have hLE : ∀ j (h : j < [12, 30, 61].length), (W2.alloc (.cells #[.int .i64 12, .int .i64 30, .int .i64 61] 2)).drew.cell? ⟨W2.heap.size, j, none⟩ = some (.int .i64 ([12, 30, 61][j]'h)) := cells_new_ints W2 [12, 30, 61] 2
    have hzE : (W2.alloc (.cells #[.int .i64 12, .int .i64 30, .int .i64 61] 2)).drew.heap.size = W2.heap.size + 1 := by show (W2.alloc _).heap.size = _; simp
    have hBE : Below w0.heap.size w0 (W2.alloc (.cells #[.int .i64 12, .int .i64 30, .int .i64 61] 2)).drew := (hB2.alloc hB2.size _).drew
    have hb2l := s2.lt
    clear hW2 CN hcn
    have hz2d : W1.heap.size < W2.drew.heap.size := hz2
    generalize hgg : W1.heap.size = gn at *
    go_wp2_with fail
    go_region_held3 (fun w' => ∀ j (h : j < namesL.length), w'.cell? ⟨gn, j, none⟩ = some (.string (namesL[j]'h))) (first | assumption | exact names_alloc (by assumption) (by first | omega | (simp; omega)))
     (first
      | (go_at_call 105; refine CC.out.mono ?_; clear CC; rintro e Wc ⟨vc, rfl, vc0, vc1, sc, gc⟩; obtain ⟨q, rfl⟩ := Int.eq_ofNat_of_zero_le vc0; have kc := names_grown kb hzb hgb gc; have hzc : gn < Wc.heap.size := Nat.lt_of_lt_of_le hzb gc.size; have CD := Lib.hid (l01Named_some (namesL[m]'hm) q m Wc (by omega) (by omega) (HW.out m hm)))
      | (go_at_call 105; refine (l01Next_i w0 _ b 4 (by first | exact s2 | exact s2.below (Below.new _ _).drew) (by first | exact hB2.drew | exact hBE) (by omega) (by omega)).mono ?_; rintro e Wa ⟨va, rfl, va0, va1, sa, ga⟩; have ka := names_grown (by first | exact hcD | exact hcE) (by first | exact hz2d | (rw [hzE]; omega)) hgb ga; have hba := below_src (by first | exact hB2.drew | exact hBE) HB0 ga; have hza : gn < Wa.heap.size := (by have h := ga.size; first | exact Nat.lt_of_lt_of_le hz2d h | (rw [hzE] at h; omega)); (first | (have hza2 : W2.heap.size < Wa.heap.size := (by have h := ga.size; rw [hzE] at h; omega); have hla : ∀ j (h : j < [12, 30, 61].length), Wa.cell? ⟨W2.heap.size, j, none⟩ = some (.int .i64 ([12, 30, 61][j]'h)) := (fun j hj => by rw [grown_cell ga (p := ⟨W2.heap.size, j, none⟩) (by show W2.heap.size < _; rw [hzE]; omega) (fun e => by have h : W2.heap.size = b := Option.some.inj e; omega)]; exact hLE j hj)) | skip); have gA : W2.grownBy Wa (some b) := (by first | exact ⟨ga.os, ga.tape, ga.output, ga.size, ga.block⟩ | exact grown_trans (grown_of_below ((Below.new W2 _).drew) _) ga); obtain ⟨m, rfl⟩ := Int.eq_ofNat_of_zero_le va0; have hm : m < namesL.length := (by simp [namesL]; omega); have hm4 : (m : Int) < 4 := (by omega))
      | (go_at_call 106; refine (l01Pick_any w0 Wa b W2.heap.size [12, 30, 61] sa hba hza2 (by omega) (by decide) (by decide) hla).mono ?_; rintro e Wb ⟨pb, rfl, hpb, sb, gb⟩; have hpb2 : 1 ≤ pb ∧ pb ≤ 61 := (by simp at hpb; omega); clear hpb; have gB : Wa.grownBy Wb (some b) := gb; have kb := names_grown ka hza hgb gb; have hbb := below_src hba HB0 gb; have hzb : gn < Wb.heap.size := (by have h := gb.size; omega); have CC := Lib.hid (l01Next_i w0 Wb b pb sb hbb hpb2.1 (by omega)))
      | (go_at_call 106; refine (l01Pick_any w0 _ b _ [12, 30, 61] (sa.below (Below.new _ _)) (hba.alloc hba.size _) (by simp) (by have := sa.lt; omega) (by decide) (by decide) (cells_new_ints Wa [12, 30, 61] _)).mono ?_; rintro e Wb ⟨pb, rfl, hpb, sb, gb⟩; have hpb2 : 1 ≤ pb ∧ pb ≤ 61 := (by simp at hpb; omega); clear hpb; have gB : Wa.grownBy Wb (some b) := grown_trans (grown_of_below (Below.new Wa _) _) gb; have kb := names_grown (names_alloc (o := .cells ([12, 30, 61].map (Value.int .i64)).toArray 2) ka hza) (by rw [World.size_alloc]; omega) hgb gb; have hbb := below_src (hba.alloc hba.size _) HB0 gb; have hzb : gn < Wb.heap.size := (by have h := gb.size; rw [World.size_alloc] at h; omega); have CC := Lib.hid (l01Next_i w0 Wb b pb sb hbb hpb2.1 (by omega)))
      | (go_at_call 58; refine CD.out.mono ?_; rintro e Wd ⟨rfl, bd⟩; have kd : ∀ j (h : j < namesL.length), Wd.cell? ⟨gn, j, none⟩ = some (.string (namesL[j]'h)) := fun j hj => (bd.cell (p := ⟨gn, j, none⟩) hzc).trans (kc j hj)))
    all_goals
      have hq60 : (bt ((namedS m q).take q)).size ≤ 60 := by rw [bt_size, List.length_take]; omega
      have gE := grown_trans (grown_trans (grown_trans (grown_trans (grown_trans g1 g2) gA) gB) gc) (grown_of_below bd (some b))
      have sE := sc.below bd
      go_wp2
      go_ret
      exact ⟨_, rfl, hq60, sE, gE⟩
  · by_cases h1 : v = 1
    · subst h1
      have CK := Lib.hid (l01Next_i w0 W1 b 6 s1 hB1 (by omega) (by omega))
      go_wp2_with fail
      refine CK.out.mono ?_
      rintro e W2 ⟨k, rfl, k0, k1, s2, g2⟩
      have hB2 := below_src hB1 HB0 g2
      have hbl2 := s2.lt
      go_wp2_with fail
      refine (l01Pick_any w0 _ b _ [2, 2, 3] (s2.below (Below.new _ _)) (hB2.alloc hB2.size _) (by simp) (by omega) (by decide) (by decide) (cells_new_ints W2 [2, 2, 3] _)).mono ?_
      rintro e W3 ⟨z, rfl, hz, s3, g3⟩
      have hz2 : 1 ≤ z ∧ z ≤ 5 := by simp at hz; omega
      have hB3 := below_src (hB2.alloc hB2.size _) HB0 g3
      have G3 := grown_trans (grown_trans g1 g2) (grown_trans (grown_of_below (Below.new W2 _) (some b)) g3)
      clear hz
      go_wp2_with fail
      refine (l01DrawOf_any w0 _ b (1 + k) z s3 hB3 (by omega) (by omega) hz2.1 hz2.2).mono ?_
      rintro e W4 ⟨u, rfl, hu, s4, g4⟩
      have hB4 := below_src hB3 HB0 g4
      have G4 := grown_trans G3 g4
      have CL := Lib.hid (l01Next_i w0 W4 b 4 s4 hB4 (by omega) (by omega))
      go_wp2_with fail
      refine CL.out.mono ?_
      rintro e W5 ⟨q, rfl, q0, q1, s5, g5⟩
      have hB5 := below_src hB4 HB0 g5
      have G5 := grown_trans G4 g5
      have hus : u.size ≤ 6 := by omega
      have hu1 : 1 ≤ u.size := by omega
      clear hu
      go_wp2_with fail
      go_loopg [7, 8] 4 (fun g s7 s8 wr => ∃ (t : ByteArray) (j : Int), 0 ≤ j ∧ j ≤ g ∧ t.size + j.toNat * 6 ≤ 24 ∧ s7 = .string t ∧ s8 = .int .i64 j ∧ wr = W5)
      case atStart => exact ⟨⟨#[]⟩, 1 + q, by omega, by omega, by show 0 + _ ≤ 24; omega, rfl, rfl, rfl⟩
      case round =>
        obtain ⟨t, j, j0, jg, ht, rfl, rfl, rfl⟩ := hrel
        by_cases hp : 0 < j
        · obtain ⟨g, rfl⟩ : ∃ g, gk = g + 1 := ⟨gk - 1, by omega⟩
          have hsum : ∀ W, (Op.stringOp .add t u).run Try.prog W = .ok (.string (t ++ u)) W := fun W => run_string_add_sum W _ _ (by omega)
          have y1 : (t ++ u).size = t.size + u.size := by rw [ByteArray.size_append]
          generalize t ++ u = o1 at *
          go_wp2
          go_roundg g
          case measure => omega
          case rel => exact ⟨o1, j - 1, by omega, by omega, by omega, rfl, by go_num, by first | rfl | trivial⟩
        · have CM := Lib.hid (l01Next_i w0 wr b u.size s5 hB5 (by omega) (by omega))
          have hts : t.size ≤ 24 := by omega
          go_wp2_with fail
          refine CM.out.mono ?_
          rintro e W6 ⟨p, rfl, p0, p1, s6, g6⟩
          obtain ⟨n, rfl⟩ := Int.eq_ofNat_of_zero_le p0
          have hsl1 := fun W => slice_to u (n : Int) n rfl (by omega) W
          have z1 : (u.extract 0 n).size = n := by simp; omega
          generalize u.extract 0 n = u1 at *
          have hsum : ∀ W, (Op.stringOp .add t u1).run Try.prog W = .ok (.string (t ++ u1)) W := fun W => run_string_add_sum W _ _ (by omega)
          have y1 : (t ++ u1).size = t.size + u1.size := by rw [ByteArray.size_append]
          generalize t ++ u1 = o1 at *
          have G6 := grown_trans G5 g6
          go_wp2_with fail
          go_ret
          exact ⟨o1, rfl, by omega, s6, G6⟩
    · by_cases h2 : v = 2
      · subst h2
        have CK := Lib.hid (l01Next_i w0 W1 b 12 s1 hB1 (by omega) (by omega))
        go_wp2_with fail
        refine CK.out.mono ?_
        rintro e W2 ⟨k, rfl, k0, k1, s2, g2⟩
        have hB2 := below_src hB1 HB0 g2
        have hbl2 := s2.lt
        go_wp2_with fail
        refine (l01Pick_any w0 _ b _ [2, 2, 3] (s2.below (Below.new _ _)) (hB2.alloc hB2.size _) (by simp) (by omega) (by decide) (by decide) (cells_new_ints W2 [2, 2, 3] _)).mono ?_
        rintro e W3 ⟨z, rfl, hz, s3, g3⟩
        have hz2 : 1 ≤ z ∧ z ≤ 5 := by simp at hz; omega
        have hB3 := below_src (hB2.alloc hB2.size _) HB0 g3
        have G3 := grown_trans (grown_trans g1 g2) (grown_trans (grown_of_below (Below.new W2 _) (some b)) g3)
        clear hz
        go_wp2_with fail
        refine (l01DrawOf_any w0 _ b k z s3 hB3 (by omega) k0 hz2.1 hz2.2).mono ?_
        rintro e W4 ⟨u, rfl, hu, s4, g4⟩
        have hB4 := below_src hB3 HB0 g4
        have G4 := grown_trans G3 g4
        have hus : u.size ≤ 11 := by omega
        clear hu
        have CL := Lib.hid (l01Next_i w0 W4 b 2 s4 hB4 (by omega) (by omega))
        go_wp2_with fail
        refine CL.out.mono ?_
        rintro e W5 ⟨q, rfl, q0, q1, s5, g5⟩
        have hB5 := below_src hB4 HB0 g5
        have G5 := grown_trans G4 g5
        go_wp2_with fail
        refine (l01DrawOf_any w0 _ b q 2 s5 hB5 (by omega) q0 (by omega) (by omega)).mono ?_
        rintro e W6 ⟨m, rfl, hm, s6, g6⟩
        have G6 := grown_trans G5 g6
        have hms : m.size ≤ 1 := by omega
        clear hm
        have hsum : ∀ W, (Op.stringOp .add u m).run Try.prog W = .ok (.string (u ++ m)) W := fun W => run_string_add_sum W _ _ (by omega)
        have y1 : (u ++ m).size = u.size + m.size := by rw [ByteArray.size_append]
        generalize u ++ m = o1 at *
        go_wp2_with fail
        refine (l01Reversed_any u _ (by omega)).mono ?_
        rintro e W7 ⟨rfl, b7⟩
        have hrv : (rev u).size = u.size := rev_size u
        generalize rev u = r at *
        have hsum2 : ∀ W, (Op.stringOp .add o1 r).run Try.prog W = .ok (.string (o1 ++ r)) W := fun W => run_string_add_sum W _ _ (by omega)
        have y2 : (o1 ++ r).size = o1.size + r.size := by rw [ByteArray.size_append]
        generalize o1 ++ r = o2 at *
        have s7 := s6.below b7
        have G7 := grown_trans G6 (grown_of_below b7 (some b))
        go_wp2_with fail
        go_ret
        exact ⟨o2, rfl, by omega, s7, G7⟩
      · by_cases h3 : v = 3
        · subst h3
          go_wp2_with fail
          refine (l01Pick_any w0 _ b _ [20, 40, 61] (s1.below (Below.new _ _)) (hB1.alloc hB1.size _) (by simp) (by omega) (by decide) (by decide) (cells_new_ints W1 [20, 40, 61] _)).mono ?_
          rintro e W2 ⟨k, rfl, hk, s2, g2⟩
          have hk2 : 1 ≤ k ∧ k ≤ 61 := by simp at hk; omega
          have hB2 := below_src (hB1.alloc hB1.size _) HB0 g2
          have G2 := grown_trans g1 (grown_trans (grown_of_below (Below.new W1 _) (some b)) g2)
          clear hk
          have CK := Lib.hid (l01Next_i w0 W2 b k s2 hB2 hk2.1 (by omega))
          go_wp2_with fail
          refine CK.out.mono ?_
          rintro e W3 ⟨q, rfl, q0, q1, s3, g3⟩
          have hB3 := below_src hB2 HB0 g3
          have hbl3 := s3.lt
          have G3 := grown_trans G2 g3
          go_wp2_with fail
          refine (l01Pick_any w0 _ b _ [1, 2, 2, 3, 3, 4, 5] (s3.below (Below.new _ _)) (hB3.alloc hB3.size _) (by simp) (by omega) (by decide) (by decide) (cells_new_ints W3 [1, 2, 2, 3, 3, 4, 5] _)).mono ?_
          rintro e W4 ⟨z, rfl, hz, s4, g4⟩
          have hz2 : 1 ≤ z ∧ z ≤ 5 := by simp at hz; omega
          have hB4 := below_src (hB3.alloc hB3.size _) HB0 g4
          have G4 := grown_trans G3 (grown_trans (grown_of_below (Below.new W3 _) (some b)) g4)
          clear hz
          go_wp2_with fail
          refine (l01DrawOf_any w0 _ b q z s4 hB4 (by omega) q0 hz2.1 hz2.2).mono ?_
          rintro e W5 ⟨u, rfl, hu, s5, g5⟩
          go_wp2_with fail
          go_ret
          exact ⟨u, rfl, by omega, s5, grown_trans G4 g5⟩
        · go_wp2_with fail
          refine (l01Small_any w0 W1 b s1 hB1).mono ?_
          rintro e W2 ⟨u, rfl, hu, s2, g2⟩
          go_wp2_with fail
          go_ret
          exact ⟨u, rfl, by omega, s2, grown_trans g1 g2⟩

set_option maxRecDepth 100000 in
theorem l01Spoil_any (w0 W : World) (b : Nat) (hS : Src w0 W b) (hB : Below w0.heap.size w0 W) :
    Calls Try.prog 113 #[.pointer (some ⟨b, 0, none⟩)] W (DrawnT 200 w0 W b) := by
  have HB0 := hS.ge
  have CN := Lib.hid (l01Draw_any w0 W b hS hB)
  clear hS
  go_enter Try.func113, Try.ntmps113
  go_wp2_with fail
  refine CN.out.mono ?_
  rintro e W1 ⟨x, rfl, hx, s1, g1⟩
  have hB1 := below_src hB HB0 g1
  have CB := Lib.hid (l01Bad_any w0 W1 b x s1 hB1 (by omega))
  go_wp2_with fail
  refine CB.out.mono ?_
  rintro e W2 ⟨y, rfl, hy, s2, g2⟩
  go_wp2_with fail
  go_ret
  exact ⟨y, rfl, by omega, s2, grown_trans g1 g2⟩

end Go.Proofs.Ytbhgghajbdlfkab

/-! ### DrawTwo -/
namespace Go.Proofs.Ytbhgghajbdlfkab
set_option linter.unusedVariables false
set_option linter.unusedSimpArgs false
open Go.RowKit

/-- What a draw of two texts comes to. -/
def TwoT (w : World) (e : Ending) (w' : World) : Prop := ∃ x y : ByteArray, e = .returned (.tuple #[.string x, .string y]) ∧ x.size ≤ 1000 ∧ y.size ≤ 1000 ∧ Below w.heap.size w w'
/-- What a draw of a text and a number comes to. -/
def TextI (w : World) (e : Ending) (w' : World) : Prop := ∃ (x : ByteArray) (k : Int), e = .returned (.tuple #[.string x, .int .i64 k]) ∧ x.size ≤ 1000 ∧ (Lit.int .i64 k).wf = true ∧ Below w.heap.size w w'
theorem wf_near {k : Int} (h0 : -4611686018427387904 ≤ k) (h1 : k ≤ 1099511627776) : (Lit.int .i64 k).wf = true := by
  simp [Lit.wf, IntKind.min, IntKind.max, IntKind.signed, IntKind.bits]
  omega

set_option maxRecDepth 100000 in
set_option maxHeartbeats 4000000 in
theorem l01Two_any (a : Option Addr) (len cap : Nat) (zs : List Int) (w : World) (h : IsRow .u8 w a len cap zs) (hl : len ≤ 1048576) :
    Calls Try.prog 84 #[.slice a len cap] w (TwoT w) := by
  have CF := Lib.hid (l01From_any a len cap zs w h hl)
  clear h
  go_enter Try.func84, Try.ntmps84
  go_wp2_with fail
  refine CF.out.mono ?_
  rintro e W0 ⟨rfl, s0, hB0⟩
  have HB0 := s0.ge
  have CN := Lib.hid (l01Draw_any w W0 w.heap.size s0 hB0)
  clear CF
  go_wp2_with fail
  refine CN.out.mono ?_
  rintro e W1 ⟨x, rfl, hx, s1, g1⟩
  have hB1 := below_src hB0 HB0 g1
  have CN2 := Lib.hid (l01Draw_any w W1 w.heap.size s1 hB1)
  clear CN s0 hB0 g1
  go_wp2_with fail
  refine CN2.out.mono ?_
  rintro e W2 ⟨u, rfl, hu, s2, g2⟩
  have hB2 := below_src hB1 HB0 g2
  have CN3 := Lib.hid (l01Next_i w W2 w.heap.size ((x.size : Int) + 1) s2 hB2 (by omega) (by omega))
  clear CN2 s1 hB1 g2
  go_wp2_with fail
  refine CN3.out.mono ?_
  rintro e W3 ⟨n0, rfl, n1, n2, s3, g3⟩
  obtain ⟨n, rfl⟩ := Int.eq_ofNat_of_zero_le n1
  have hn : n ≤ x.size := by omega
  have hB3 := below_src hB2 HB0 g3
  have CN4 := Lib.hid (l01Next_i w W3 w.heap.size 5 s3 hB3 (by omega) (by omega))
  clear CN3 s2 hB2 g3
  go_wp2_with fail
  refine CN4.out.mono ?_
  rintro e W4 ⟨v, rfl, v0, v1, s4, g4⟩
  have hB4 := below_src hB3 HB0 g4
  clear CN4 s3 hB3 g4
  by_cases h0 : v = 0
  · subst h0
    have hsl1 := fun W => slice_to x (n : Int) n rfl (by omega) W
    have z1 : (x.extract 0 n).size = n := by simp; omega
    generalize x.extract 0 n = x1 at *
    go_wp2_with fail
    go_region_with (go_at_call 107; refine (l01Small_any w _ w.heap.size (by first | exact s4 | exact s4.below (Below.refl _ _).drew) (by first | exact hB4 | exact hB4.drew)).mono ?_; rintro e W5 ⟨u2, rfl, hu2, s5, g5⟩; have hsum : ∀ W, (Op.stringOp .add x1 u2).run Try.prog W = .ok (.string (x1 ++ u2)) W := (fun W => run_string_add_sum W x1 u2 (by omega)))
    all_goals
      have hB5 : Below w.heap.size w W5 := below_src (by first | exact hB4.drew | exact hB4) HB0 g5
      have y5 : (x1 ++ u2).size = x1.size + u2.size := ByteArray.size_append ..
      generalize x1 ++ u2 = uu at *
      have y6 : uu.size ≤ 900 := by omega
      clear hsum
      by_cases hu60 : 60 < uu.size
      · have hsl := fun W => slice_to uu 60 60 rfl (by omega) W
        have zz : (uu.extract 0 60).size = 60 := by simp; omega
        generalize uu.extract 0 60 = u3 at *
        have CB := Lib.hid (l01Bad_any w W5 w.heap.size x s5 hB5 (by omega))
        go_wp2_with fail
        refine CB.out.mono ?_
        rintro e Wb ⟨xx, rfl, hxx, sb, gb⟩
        have hBb := below_src hB5 HB0 gb
        have CC := Lib.hid (l01Bad_any w Wb w.heap.size u3 sb hBb (by omega))
        go_wp2_with fail
        refine CC.out.mono ?_
        rintro e Wc ⟨yy, rfl, hyy, sc, gc⟩
        have hBc := below_src hBb HB0 gc
        go_wp2_with fail
        go_ret2
        exact ⟨xx, yy, rfl, by omega, by omega, hBc⟩
      · have CB := Lib.hid (l01Bad_any w W5 w.heap.size x s5 hB5 (by omega))
        go_wp2_with fail
        refine CB.out.mono ?_
        rintro e Wb ⟨xx, rfl, hxx, sb, gb⟩
        have hBb := below_src hB5 HB0 gb
        have CC := Lib.hid (l01Bad_any w Wb w.heap.size uu sb hBb (by omega))
        go_wp2_with fail
        refine CC.out.mono ?_
        rintro e Wc ⟨yy, rfl, hyy, sc, gc⟩
        have hBc := below_src hBb HB0 gc
        go_wp2_with fail
        go_ret2
        exact ⟨xx, yy, rfl, by omega, by omega, hBc⟩
  · by_cases h1 : v = 1
    · subst h1
      have hsl1 := fun W => slice_from x (n : Int) n rfl (by omega) W
      have z1 : (x.extract n x.size).size = x.size - n := by simp
      generalize x.extract n x.size = x1 at *
      go_wp2_with fail
      go_region_with (go_at_call 107; refine (l01Small_any w _ w.heap.size (by first | exact s4 | exact s4.below (Below.refl _ _).drew) (by first | exact hB4 | exact hB4.drew)).mono ?_; rintro e W5 ⟨u2, rfl, hu2, s5, g5⟩; have hsum : ∀ W, (Op.stringOp .add u2 x1).run Try.prog W = .ok (.string (u2 ++ x1)) W := (fun W => run_string_add_sum W u2 x1 (by omega)))
      all_goals
        have hB5 : Below w.heap.size w W5 := below_src (by first | exact hB4.drew | exact hB4) HB0 g5
        have y5 : (u2 ++ x1).size = u2.size + x1.size := ByteArray.size_append ..
        generalize u2 ++ x1 = uu at *
        have y6 : uu.size ≤ 900 := by omega
        clear hsum
        by_cases hu60 : 60 < uu.size
        · have hsl := fun W => slice_to uu 60 60 rfl (by omega) W
          have zz : (uu.extract 0 60).size = 60 := by simp; omega
          generalize uu.extract 0 60 = u3 at *
          have CB := Lib.hid (l01Bad_any w W5 w.heap.size x s5 hB5 (by omega))
          go_wp2_with fail
          refine CB.out.mono ?_
          rintro e Wb ⟨xx, rfl, hxx, sb, gb⟩
          have hBb := below_src hB5 HB0 gb
          have CC := Lib.hid (l01Bad_any w Wb w.heap.size u3 sb hBb (by omega))
          go_wp2_with fail
          refine CC.out.mono ?_
          rintro e Wc ⟨yy, rfl, hyy, sc, gc⟩
          have hBc := below_src hBb HB0 gc
          go_wp2_with fail
          go_ret2
          exact ⟨xx, yy, rfl, by omega, by omega, hBc⟩
        · have CB := Lib.hid (l01Bad_any w W5 w.heap.size x s5 hB5 (by omega))
          go_wp2_with fail
          refine CB.out.mono ?_
          rintro e Wb ⟨xx, rfl, hxx, sb, gb⟩
          have hBb := below_src hB5 HB0 gb
          have CC := Lib.hid (l01Bad_any w Wb w.heap.size uu sb hBb (by omega))
          go_wp2_with fail
          refine CC.out.mono ?_
          rintro e Wc ⟨yy, rfl, hyy, sc, gc⟩
          have hBc := below_src hBb HB0 gc
          go_wp2_with fail
          go_ret2
          exact ⟨xx, yy, rfl, by omega, by omega, hBc⟩
    · by_cases h2 : v = 2
      · subst h2
        have CB := Lib.hid (l01Bad_any w W4 w.heap.size x s4 hB4 (by omega))
        go_wp2_with fail
        refine CB.out.mono ?_
        rintro e Wb ⟨xx, rfl, hxx, sb, gb⟩
        have hBb := below_src hB4 HB0 gb
        have CC := Lib.hid (l01Bad_any w Wb w.heap.size x sb hBb (by omega))
        go_wp2_with fail
        refine CC.out.mono ?_
        rintro e Wc ⟨yy, rfl, hyy, sc, gc⟩
        have hBc := below_src hBb HB0 gc
        go_wp2_with fail
        go_ret2
        exact ⟨xx, yy, rfl, by omega, by omega, hBc⟩
      · have CB := Lib.hid (l01Bad_any w W4 w.heap.size x s4 hB4 (by omega))
        go_wp2_with fail
        refine CB.out.mono ?_
        rintro e Wb ⟨xx, rfl, hxx, sb, gb⟩
        have hBb := below_src hB4 HB0 gb
        have CC := Lib.hid (l01Bad_any w Wb w.heap.size u sb hBb (by omega))
        go_wp2_with fail
        refine CC.out.mono ?_
        rintro e Wc ⟨yy, rfl, hyy, sc, gc⟩
        have hBc := below_src hBb HB0 gc
        go_wp2_with fail
        go_ret2
        exact ⟨xx, yy, rfl, by omega, by omega, hBc⟩

end Go.Proofs.Ytbhgghajbdlfkab

/-! ### DrawIn -/
namespace Go.Proofs.Ytbhgghajbdlfkab
set_option linter.unusedVariables false
set_option linter.unusedSimpArgs false
open Go.RowKit

/-- What a draw of two numbers comes to. -/
def TwoI (w : World) (e : Ending) (w' : World) : Prop := ∃ (m k : Int), e = .returned (.tuple #[.int .i64 m, .int .i64 k]) ∧ (Lit.int .i64 m).wf = true ∧ (Lit.int .i64 k).wf = true ∧ Below w.heap.size w w'
/-- What a draw of a text and two numbers comes to. -/
def TextII (w : World) (e : Ending) (w' : World) : Prop := ∃ (x : ByteArray) (i m : Int), e = .returned (.tuple #[.string x, .int .i64 i, .int .i64 m]) ∧ x.size ≤ 1000 ∧ (Lit.int .i64 i).wf = true ∧ (Lit.int .i64 m).wf = true ∧ Below w.heap.size w w'
def OneT (w : World) (e : Ending) (w' : World) : Prop := ∃ x : ByteArray, e = .returned (.string x) ∧ x.size ≤ 1000 ∧ Below w.heap.size w w'

set_option maxRecDepth 100000 in
set_option maxHeartbeats 4000000 in
theorem l01Inside_any (a : Option Addr) (len cap : Nat) (zs : List Int) (w : World) (h : IsRow .u8 w a len cap zs) (hl : len ≤ 1048576) :
    Calls Try.prog 68 #[.slice a len cap] w (TwoT w) := by
  have CF := Lib.hid (l01From_any a len cap zs w h hl)
  clear h
  go_enter Try.func68, Try.ntmps68
  go_wp2_with fail
  refine CF.out.mono ?_
  rintro e W0 ⟨rfl, s0, hB0⟩
  have HB0 := s0.ge
  have CN := Lib.hid (l01Draw_any w W0 w.heap.size s0 hB0)
  clear CF
  go_wp2_with fail
  refine CN.out.mono ?_
  rintro e W1 ⟨x, rfl, hx, s1, g1⟩
  have hB1 := below_src hB0 HB0 g1
  have CK := Lib.hid (l01Next_i w W1 w.heap.size ((x.size : Int) + 1) s1 hB1 (by omega) (by omega))
  clear CN s0 hB0 g1
  go_wp2_with fail
  refine CK.out.mono ?_
  rintro e W2 ⟨n0, rfl, n1, n2, s2, g2⟩
  obtain ⟨n, rfl⟩ := Int.eq_ofNat_of_zero_le n1
  have hB2 := below_src hB1 HB0 g2
  have hl2 := s2.lt
  have hn : n ≤ x.size := by omega
  clear CK s1 hB1 g2
  go_wp2_with fail
  refine (l01Pick_any w _ w.heap.size _ [2, 4, 9] (s2.below (Below.new _ _)) (hB2.alloc hB2.size _) (by simp) (by omega) (by decide) (by decide) (cells_new_ints W2 [2, 4, 9] _)).mono ?_
  rintro e W3 ⟨z, rfl, hz, s3, g3⟩
  have hz2 : 2 ≤ z ∧ z ≤ 9 := by simp at hz; omega
  have hB3 := below_src (hB2.alloc hB2.size _) HB0 g3
  have CZ := Lib.hid (l01Next_i w W3 w.heap.size z s3 hB3 (by omega) (by omega))
  clear hz s2 hB2 g3 hl2
  go_wp2_with fail
  refine CZ.out.mono ?_
  rintro e W4 ⟨m0, rfl, m1, m2, s4, g4⟩
  obtain ⟨m, rfl⟩ := Int.eq_ofNat_of_zero_le m1
  have hB4 := below_src hB3 HB0 g4
  clear CZ s3 hB3 g4
  go_wp2_with fail
  have hu : (x.extract n (min ((n : Int) + (m : Int)) (x.size : Int)).toNat).size ≤ 60 := by simp; omega
  generalize x.extract n (min ((n : Int) + (m : Int)) (x.size : Int)).toNat = u at *
  have CV := Lib.hid (l01Next_i w W4 w.heap.size 8 s4 hB4 (by omega) (by omega))
  clear s4
  refine CV.out.mono ?_
  rintro e W5 ⟨v, rfl, v0, v1, s5, g5⟩
  have hB5 := below_src hB4 HB0 g5
  clear CV g5 hB4
  by_cases hv : v = 0
  · subst hv
    have CS := Lib.hid (l01Small_any w W5 w.heap.size s5 hB5)
    go_wp2_with fail
    refine CS.out.mono ?_
    rintro e W6 ⟨u2, rfl, hu2, s6, g6⟩
    have hB6 := below_src hB5 HB0 g6
    have CB := Lib.hid (l01Bad_any w W6 w.heap.size x s6 hB6 (by omega))
    go_wp2_with fail
    refine CB.out.mono ?_
    rintro e Wb ⟨xx, rfl, hxx, sb, gb⟩
    have hBb := below_src hB6 HB0 gb
    have CC := Lib.hid (l01Bad_any w Wb w.heap.size u2 sb hBb (by omega))
    go_wp2_with fail
    refine CC.out.mono ?_
    rintro e Wc ⟨yy, rfl, hyy, sc, gc⟩
    have hBc := below_src hBb HB0 gc
    go_wp2_with fail
    go_ret2
    exact ⟨xx, yy, rfl, by omega, by omega, hBc⟩
  · have CB := Lib.hid (l01Bad_any w W5 w.heap.size x s5 hB5 (by omega))
    go_wp2_with fail
    refine CB.out.mono ?_
    rintro e Wb ⟨xx, rfl, hxx, sb, gb⟩
    have hBb := below_src hB5 HB0 gb
    have CC := Lib.hid (l01Bad_any w Wb w.heap.size u sb hBb (by omega))
    go_wp2_with fail
    refine CC.out.mono ?_
    rintro e Wc ⟨yy, rfl, hyy, sc, gc⟩
    have hBc := below_src hBb HB0 gc
    go_wp2_with fail
    go_ret2
    exact ⟨xx, yy, rfl, by omega, by omega, hBc⟩

end Go.Proofs.Ytbhgghajbdlfkab

/-! ### Draw05 -/
namespace Go.Proofs.Ytbhgghajbdlfkab
set_option linter.unusedVariables false
set_option linter.unusedSimpArgs false
open Go.RowKit

set_option maxRecDepth 100000 in
set_option maxHeartbeats 4000000 in
theorem l05Draw_any (a : Option Addr) (len cap : Nat) (zs : List Int) (w : World) (h : IsRow .u8 w a len cap zs) (hl : len ≤ 1048576) :
    Calls Try.prog 77 #[.slice a len cap] w (TextI w) := by
  have CF := Lib.hid (l01From_any a len cap zs w h hl)
  clear h
  go_enter Try.func77, Try.ntmps77
  go_wp2_with fail
  refine CF.out.mono ?_
  rintro e W0 ⟨rfl, s0, hB0⟩
  have HB0 := s0.ge
  have CN := Lib.hid (l01Spoil_any w W0 w.heap.size s0 hB0)
  clear CF
  go_wp2_with fail
  refine CN.out.mono ?_
  rintro e W1 ⟨x, rfl, hx, s1, g1⟩
  have hB1 := below_src hB0 HB0 g1
  have CK := Lib.hid (l01Near_any w W1 w.heap.size 60 s1 hB1 (by omega) (by omega))
  clear CN s0 hB0 g1
  go_wp2_with fail
  refine CK.out.mono ?_
  rintro e W2 ⟨k, rfl, k0, k1, s2, g2⟩
  have hB2 := below_src hB1 HB0 g2
  have hl2 := s2.lt
  clear CK s1 hB1 g2
  go_wp2_with fail
  refine (l01Pick_any w _ w.heap.size _ [0, 1, 1, 2, 2, 3, 4, 5, 9, k] (s2.below (Below.new _ _)) (hB2.alloc hB2.size _) (by simp) (by omega) (by simp) (by simp) (cells_new_ints W2 [0, 1, 1, 2, 2, 3, 4, 5, 9, k] _)).mono ?_
  rintro e W3 ⟨z, rfl, hz, s3, g3⟩
  have hz2 : -4611686018427387904 ≤ z ∧ z ≤ 1099511627776 := by simp at hz; omega
  have hB3 := below_src (hB2.alloc hB2.size _) HB0 g3
  clear hz
  go_wp2_with fail
  go_ret2
  exact ⟨x, z, rfl, by omega, wf_near hz2.1 hz2.2, hB3⟩

set_option maxRecDepth 100000 in
theorem DrawWindowOf_any (a : Option Addr) (len cap : Nat) (zs : List Int) (w : World) (h : IsRow .u8 w a len cap zs) (hl : len ≤ 1048576) :
    Calls Try.prog 35 #[.slice a len cap] w (TextI w) := by
  have CF := Lib.hid (l05Draw_any a len cap zs w h hl)
  clear h
  go_enter Try.func35, Try.ntmps35
  go_wp2_with fail
  refine CF.out.mono ?_
  rintro e W0 ⟨x, k, rfl, hx, hk, hB⟩
  go_wp2_with fail
  go_ret2
  exact ⟨x, k, rfl, hx, hk, hB⟩

set_option maxRecDepth 100000 in
theorem DrawLongestAntipower_any (a : Option Addr) (len cap : Nat) (zs : List Int) (w : World) (h : IsRow .u8 w a len cap zs) (hl : len ≤ 1048576) :
    Calls Try.prog 39 #[.slice a len cap] w (TextI w) := by
  have CF := Lib.hid (l05Draw_any a len cap zs w h hl)
  clear h
  go_enter Try.func39, Try.ntmps39
  go_wp2_with fail
  refine CF.out.mono ?_
  rintro e W0 ⟨x, k, rfl, hx, hk, hB⟩
  go_wp2_with fail
  go_ret2
  exact ⟨x, k, rfl, hx, hk, hB⟩

set_option maxRecDepth 100000 in
theorem DrawReturnWords_any (a : Option Addr) (len cap : Nat) (zs : List Int) (w : World) (h : IsRow .u8 w a len cap zs) (hl : len ≤ 1048576) :
    Calls Try.prog 27 #[.slice a len cap] w (TwoT w) := by
  have CF := Lib.hid (l01Inside_any a len cap zs w h hl)
  clear h
  go_enter Try.func27, Try.ntmps27
  go_wp2_with fail
  refine CF.out.mono ?_
  rintro e W0 ⟨x, k, rfl, hx, hk, hB⟩
  go_wp2_with fail
  go_ret2
  exact ⟨x, k, rfl, hx, hk, hB⟩

set_option maxRecDepth 100000 in
theorem DrawLongestCommonFactor_any (a : Option Addr) (len cap : Nat) (zs : List Int) (w : World) (h : IsRow .u8 w a len cap zs) (hl : len ≤ 1048576) :
    Calls Try.prog 43 #[.slice a len cap] w (TwoT w) := by
  have CF := Lib.hid (l01Two_any a len cap zs w h hl)
  clear h
  go_enter Try.func43, Try.ntmps43
  go_wp2_with fail
  refine CF.out.mono ?_
  rintro e W0 ⟨x, k, rfl, hx, hk, hB⟩
  go_wp2_with fail
  go_ret2
  exact ⟨x, k, rfl, hx, hk, hB⟩

end Go.Proofs.Ytbhgghajbdlfkab
