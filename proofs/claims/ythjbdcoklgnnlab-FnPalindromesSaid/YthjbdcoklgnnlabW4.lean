/- What the law on palindromes rests on: draws, lists, palindromes, plain facts. -/
import Derived.Test.YthjbdcoklgnnlabLgPlain
import Derived.Test.YthjbdcoklgnnlabPal
import Derived.Test.YthjbdcoklgnnlabExp
import Derived.Test.YthjbdcoklgnnlabFactor
import Derived.WalkMore
import Derived.Deep.LoopGhost
import Derived.Test.YthjbdcoklgnnlabPalEnd
import Derived.Test.YthjbdcoklgnnlabInts
import Derived.Test.YthjbdcoklgnnlabComPlain
import Derived.Lib.OthersKept
import Derived.WalkSmall
import Derived.Test.YthjbdcoklgnnlabPlacesPlain
import Derived.Test.YthjbdcoklgnnlabFacIter
import Derived.WalkKit
import Derived.RegionTactic
import Derived.Deep.RegionWith
import Derived.Outline
import Derived.Lib.RuneBytes
import Derived.Lib.UnsafeStr
import Derived.Test.YthjbdcoklgnnlabOwn
import Derived.Test.YthjbdcoklgnnlabPers
import Derived.BigRegion
import Derived.RangeFuncBox
import Derived.Deep.QuietTactic
import Derived.BigQuiet
import Derived.Test.YthjbdcoklgnnlabShelf
import Derived.Test.YthjbdcoklgnnlabStrs
import Derived.WalkSpells
import Derived.Deep.RegionHeld3
import Derived.ChangeAlike
import Derived.Test.YthjbdcoklgnnlabPlain
import Derived.Shelf.Strings.Repeat
import Derived.Sort.KeysCollected
import Derived.Maps.OwnIn
import Derived.Maps.OwnSet
import Derived.Test.YthjbdcoklgnnlabLeast
import Derived.Test.YthjbdcoklgnnlabPerRPlain
import Derived.Test.YthjbdcoklgnnlabLib
import Derived.Test.YthjbdcoklgnnlabRoot
import Derived.Test.YthjbdcoklgnnlabPalPlain

/-! ### LgS -/
namespace Go.Proofs.Ythjbdcoklgnnlab
set_option linter.unusedVariables false
set_option linter.unusedSimpArgs false
open Go.RowKit

set_option maxRecDepth 100000 in
set_option maxHeartbeats 2000000 in
theorem spec_LongestPalindrome (x : ByteArray) (w : World) (sx : x.size ≤ maxLen) :
    Calls Try.prog 62 #[.string x] w fun e w' => e = .returned (.tuple #[.string (lgR x).1, .int .i64 (lgR x).2.1, .int .i64 (lgR x).2.2]) ∧ Below w.heap.size w w' := by
  by_cases h : IsW x
  · by_cases h0 : x.size = 0
    · rw [lgR_nil h h0]
      have H := Lib.hid h
      clear h
      go_enter Try.func62, Try.ntmps62
      go_wp2_with fail
      refine (l02Given_nil x _ H.out h0).mono ?_
      rintro e w1 ⟨rfl, b1⟩
      go_wp2_with fail
      go_ret3
      exact ⟨rfl, b1⟩
    · rw [lgR_ok h h0]
      have h1 := h.size
      have H := Lib.hid h
      clear h
      obtain ⟨R, pl, hR⟩ : ∃ R pl, lgF x x.size = (R, pl) := ⟨_, _, rfl⟩
      rw [hR]
      have HR0 := Lib.hid hR
      clear hR
      go_enter Try.func62, Try.ntmps62
      go_wp2_with fail
      refine (l02Given_ok x _ H.out h0).mono ?_
      rintro e w1 ⟨rfl, b1⟩
      go_wp2_with fail
      go_loopg [6] x.size (fun g s6 wr => ∃ n : Nat, n ≤ g ∧ 1 ≤ n ∧ n ≤ x.size ∧ s6 = .int .i64 (n : Int) ∧ Below w.heap.size w wr ∧ Hid (lgF x n = (R, pl)))
      case atStart => exact ⟨x.size, Nat.le_refl _, by omega, Nat.le_refl _, rfl, b1, HR0⟩
      case round =>
        obtain ⟨n, hn, hn1, hnx, rfl, hB, HR⟩ := hrel
        clear b1 HR0
        by_cases hp : 1 < n
        · obtain ⟨g, rfl⟩ : ∃ g, gk = g + 1 := ⟨gk - 1, by omega⟩
          have hpi : (1 : Int) < (n : Int) := by omega
          have hpd : decide ((1 : Int) < (n : Int)) = true := decide_eq_true hpi
          go_wp2
          try rw [hpd]
          clear hpd
          go_loopg [7] (x.size + 1 - n) (fun g2 s7 wr => ∃ i : Nat, i + g2 = x.size + 1 - n ∧ s7 = .int .i64 (i : Int) ∧ Below w.heap.size w wr ∧ Hid (piI x n 0 (x.size + 1 - n) = piI x n i g2))
          case atStart => exact ⟨0, by omega, rfl, hB, Lib.hid rfl⟩
          case round =>
            clear hB
            obtain ⟨i, hi, rfl, hB, HI⟩ := hrel
            by_cases hp2 : i + n ≤ x.size
            · obtain ⟨g2, rfl⟩ : ∃ g2, gk = g2 + 1 := ⟨gk - 1, by omega⟩
              have hsl := fun W => slice_mid x i n hp2 W
              have hle : (i : Int) + (n : Int) ≤ (x.size : Int) := by omega
              have CP := Lib.hid (fun w => l04Is_any (x.extract i (i + n)) w (by simp; omega))
              by_cases he : palB (bl (x.extract i (i + n))) = true
              · have HV : Hid (R = x.extract i (i + n) ∧ pl = i) := Lib.hid (by
                  have e := lgF_hit (by omega) (by rw [HI.out, piI_hit he])
                  rw [HR.out] at e
                  exact Prod.mk.inj e)
                rw [he] at CP
                generalize x.extract i (i + n) = y at *
                go_wp2_with (go_at_call 129; refine (CP.out _).mono ?_; rintro e w2 ⟨rfl, b2⟩)
                go_ret3
                rw [HV.out.1, HV.out.2]
                exact ⟨rfl, hB.then b2⟩
              · have he2 : palB (bl (x.extract i (i + n))) = false := by simpa using he
                have HN : Hid (piI x n 0 (x.size + 1 - n) = piI x n (i + 1) g2) := Lib.hid (by rw [HI.out, piI_miss he2])
                rw [he2] at CP
                clear he he2
                generalize x.extract i (i + n) = y at *
                go_wp2_with (go_at_call 129; refine (CP.out _).mono ?_; rintro e w2 ⟨rfl, b2⟩)
                go_roundg g2
                case measure => omega
                case rel => exact ⟨i + 1, by omega, by go_num, hB.then b2, HN⟩
            · have hle : ¬ (i : Int) + (n : Int) ≤ (x.size : Int) := by omega
              obtain rfl : gk = 0 := by omega
              have HN : Hid (lgF x (n - 1) = (R, pl)) := Lib.hid (by rw [← HR.out]; exact (lgF_miss (by omega) (by rw [HI.out, piI_end])).symm)
              go_wp2
              go_roundg g
              case measure => omega
              case rel => exact ⟨n - 1, by omega, by omega, by omega, by go_num, hB, HN⟩
        · have hlow := HR.out
          rw [show n = 1 by omega, lgF_one (by omega)] at hlow
          have hsl := fun W => slice_to x 1 1 rfl (by omega) W
          have HV : Hid (R = x.extract 0 1 ∧ pl = 0) := Lib.hid (by
            obtain ⟨e1, e2⟩ := Prod.mk.inj hlow
            exact ⟨e1.symm, e2.symm⟩)
          clear hlow
          have hpi : ¬ (1 : Int) < (n : Int) := by omega
          generalize x.extract 0 1 = y at *
          go_wp2
          go_ret3
          rw [HV.out.1, HV.out.2]
          exact ⟨rfl, hB⟩
  · rw [lgR_bad h]
    have H := Lib.hid h
    clear h
    go_enter Try.func62, Try.ntmps62
    go_wp2_with fail
    refine (l02Given_bad x _ sx H.out).mono ?_
    rintro e w1 ⟨rfl, b1⟩
    go_wp2_with fail
    go_ret3
    exact ⟨rfl, b1⟩

end Go.Proofs.Ythjbdcoklgnnlab

/-! ### EndL -/
namespace Go.Proofs.Ythjbdcoklgnnlab
set_option linter.unusedVariables false
set_option linter.unusedSimpArgs false
open Go.RowKit

set_option maxRecDepth 100000 in
set_option maxHeartbeats 1000000 in
theorem impl_EndLengths (x : ByteArray) (w : World) (sx : x.size ≤ maxLen) :
    Calls Try.prog 63 #[.string x] w (RetI (endsR x).1 (endsR x).2 w) := by
  obtain ⟨i0, hi, hz0, hz1, hz2⟩ := info_parts infoI64
  by_cases h : IsW x
  · rw [endsR_ok h]
    have h1 := h.size
    have H := Lib.hid h
    clear h
    go_enter Try.func63, Try.ntmps63
    go_wp2_with fail
    refine (isWord_yes x _ H.out).mono ?_
    rintro e w1 ⟨rfl, b1⟩
    go_wp2_with fail
    go_loopw [4, 11] (fun v i wr => ∃ k : Nat, k ≤ x.size ∧ i = .int .i64 (k : Int) ∧ OwnI wr w.heap.size v (endsL x k) ∧ Below w.heap.size w wr)
      (fun _ i _ => x.size + 1 - (intOf i).toNat)
    case atStart => exact ⟨0, Nat.zero_le _, rfl, OwnI.nil _ _, b1⟩
    case round =>
      clear b1
      obtain ⟨k, hk, rfl, hown, hB⟩ := hrel
      have hlen := endsL_len x k
      by_cases hp : k < x.size
      · have HS := Lib.hid (endsL_succ x k)
        have hsl := fun W => slice_to x ((k : Int) + 1) (k + 1) (by omega) (by omega) W
        have z1 : (x.extract 0 (k + 1)).size = k + 1 := by simp; omega
        have CP := Lib.hid fun w => palAtEnd_any (x.extract 0 (k + 1)) w (by omega)
        generalize endsL x k = L at hown hlen HS
        generalize x.extract 0 (k + 1) = y at *
        have hz := endP_le (bl y)
        rw [bl_len] at hz
        generalize endP (bl y) = z at *
        go_wp2_with fail
        refine (CP.out _).mono ?_
        rintro e w2 ⟨rfl, b2⟩
        have hown2 := hown.below b2
        have hB2 := hB.then b2
        have hbz2 := hB2.size
        clear hown hB b2
        go_wp2_with (at_builtin; refine wpList_append_own _ rfl _ _ 34 rfl w.heap.size 2 i0 (.int .i64 0) 1 8 Try.underlying34 hi hz0 hz1 hz2 rfl (by decide) _ _ _ rfl (hown2.alloc _) ⟨_, 0, none⟩ 1 1 [.int .i64 (z : Int)] rfl rfl (cell_new _ _ _) (by intro u hu; simp at hu; subst hu; rfl) (by unfold maxLen; omega) (by omega) (by simp; omega) ?_; intro v' w3 hown' hgrow _)
        go_roundw
        case rel =>
          refine ⟨k + 1, by omega, by go_num, ?_, ?_⟩
          · unfold OwnI; rw [HS.out, List.length_append, ← map_snoc]; exact hown'
          · exact (hB2.alloc hbz2 _).grown hgrow (by simp; omega) (fun q hq => (hown2.lt q hq).1)
        case measure => simp [intOf]; omega
      · have hke : k = x.size := by omega
        have HO := Lib.hid hown
        clear hown
        go_wp2
        go_ret2
        rw [← hke]
        exact ⟨_, rfl, HO.out, hB⟩
  · rw [endsR_bad h]
    have H := Lib.hid h
    clear h
    go_enter Try.func63, Try.ntmps63
    go_wp2_with fail
    refine (isWord_not x _ sx H.out).mono ?_
    rintro e w1 ⟨rfl, b1⟩
    go_wp2_with fail
    go_ret2
    exact ⟨_, rfl, OwnI.nil _ _, b1⟩

set_option maxRecDepth 100000 in
set_option maxHeartbeats 1000000 in
theorem spec_EndLengths (x : ByteArray) (w : World) (sx : x.size ≤ maxLen) :
    Calls Try.prog 64 #[.string x] w (RetI (endsR x).1 (endsR x).2 w) := by
  obtain ⟨i0, hi, hz0, hz1, hz2⟩ := info_parts infoI64
  by_cases h : IsW x
  · rw [endsR_ok h]
    have h1 := h.size
    have H := Lib.hid h
    clear h
    go_enter Try.func64, Try.ntmps64
    go_wp2_with fail
    refine (l01Is_yes x _ H.out).mono ?_
    rintro e w1 ⟨rfl, b1⟩
    go_wp2_with fail
    go_loopw [4, 5] (fun v i wr => ∃ k : Nat, k ≤ x.size ∧ i = .int .i64 ((k : Int) + 1) ∧ OwnI wr w.heap.size v (endsL x k) ∧ Below w.heap.size w wr)
      (fun _ i _ => x.size + 2 - (intOf i).toNat)
    case atStart => exact ⟨0, Nat.zero_le _, rfl, (OwnI.lit0 w1 b1.size), b1.alloc b1.size _⟩
    case round =>
      clear b1
      obtain ⟨k, hk, rfl, hown, hB⟩ := hrel
      have hlen := endsL_len x k
      by_cases hp : k < x.size
      · have HS := Lib.hid (endsL_succ x k)
        have hsl := fun W => slice_to x ((k : Int) + 1) (k + 1) (by omega) (by omega) W
        have z1 : (x.extract 0 (k + 1)).size = k + 1 := by simp; omega
        have CP := Lib.hid fun w => l04End_any (x.extract 0 (k + 1)) w (by omega)
        generalize endsL x k = L at hown hlen HS
        generalize x.extract 0 (k + 1) = y at *
        have hz := endP_le (bl y)
        rw [bl_len] at hz
        generalize endP (bl y) = z at *
        go_wp2_with fail
        refine (CP.out _).mono ?_
        rintro e w2 ⟨rfl, b2⟩
        have hown2 := hown.below b2
        have hB2 := hB.then b2
        have hbz2 := hB2.size
        clear hown hB b2
        go_wp2_with (at_builtin; refine wpList_append_own _ rfl _ _ 34 rfl w.heap.size 2 i0 (.int .i64 0) 1 8 Try.underlying34 hi hz0 hz1 hz2 rfl (by decide) _ _ _ rfl (hown2.alloc _) ⟨_, 0, none⟩ 1 1 [.int .i64 (z : Int)] rfl rfl (cell_new _ _ _) (by intro u hu; simp at hu; subst hu; rfl) (by unfold maxLen; omega) (by omega) (by simp; omega) ?_; intro v' w3 hown' hgrow _)
        go_roundw
        case rel =>
          refine ⟨k + 1, by omega, by go_num, ?_, ?_⟩
          · unfold OwnI; rw [HS.out, List.length_append, ← map_snoc]; exact hown'
          · exact (hB2.alloc hbz2 _).grown hgrow (by simp; omega) (fun q hq => (hown2.lt q hq).1)
        case measure => simp [intOf]; omega
      · have hke : k = x.size := by omega
        have HO := Lib.hid hown
        clear hown
        go_wp2
        go_ret2
        rw [← hke]
        exact ⟨_, rfl, HO.out, hB⟩
  · rw [endsR_bad h]
    have H := Lib.hid h
    clear h
    go_enter Try.func64, Try.ntmps64
    go_wp2_with fail
    refine (l01Is_no x _ sx H.out).mono ?_
    rintro e w1 ⟨rfl, b1⟩
    go_wp2_with fail
    go_ret2
    exact ⟨_, rfl, OwnI.nil _ _, b1⟩

end Go.Proofs.Ythjbdcoklgnnlab

/-! ### LettersPlain -/
namespace Go.Proofs.Ythjbdcoklgnnlab
set_option linter.unusedVariables false
set_option linter.unusedSimpArgs false
open Go.RowKit

def numsR (x : ByteArray) : List Int := x.data.toList.map fun b => (b.toNat : Int) - 97
theorem numsR_len (x : ByteArray) : (numsR x).length = x.size := by
  unfold numsR
  rw [List.length_map]
  rfl
theorem numsR_get (x : ByteArray) (k : Nat) (h : k < (numsR x).length) (h' : k < x.size) : (numsR x)[k]'h = ((x[k]'h').toNat : Int) - 97 := by
  have h2 : k < (x.data.toList.map fun b => (b.toNat : Int) - 97).length := h
  have e : (x.data.toList.map fun b => (b.toNat : Int) - 97)[k]'h2 = ((x.data.toList[k]'(by simpa using h2)).toNat : Int) - 97 := List.getElem_map ..
  exact e
theorem nums_snoc (L : List Int) (k : Nat) (h : k < L.length) : (L.take k).map (Value.int .i64) ++ [Value.int .i64 (L[k]'h)] = (L.take (k + 1)).map (Value.int .i64) := by
  rw [List.take_succ_eq_append_getElem h, List.map_append]; rfl
def lettersR (x : ByteArray) : List Int × Int := if ¬ IsW x then ([], 1) else (numsR x, 0)
theorem lettersR_bad {x : ByteArray} (h : ¬ IsW x) : lettersR x = ([], 1) := if_pos h
theorem lettersR_ok {x : ByteArray} (h : IsW x) : lettersR x = (numsR x, 0) := by unfold lettersR; rw [if_neg (not_not_intro h)]
theorem lettersR_len (x : ByteArray) : (lettersR x).1.length ≤ 4096 := by
  by_cases h : IsW x
  · rw [lettersR_ok h, numsR_len]; have := h.size; omega
  · rw [lettersR_bad h]; decide

end Go.Proofs.Ythjbdcoklgnnlab

/-! ### Numbers -/
namespace Go.Proofs.Ythjbdcoklgnnlab
set_option linter.unusedVariables false
set_option linter.unusedSimpArgs false
open Go.RowKit

set_option maxRecDepth 100000 in
theorem l01At_any (x : ByteArray) (k : Nat) (w : World) (h : k < x.size) (hs : x.size ≤ 60) :
    Calls Try.prog 168 #[.string x, .int .i64 k] w fun e w' => e = .returned (.int .i64 (((x[k]'h).toNat : Int) - 97)) ∧ Below w.heap.size w w' := by
  have hb : (x[k]'h).toNat ≤ 255 := by have := (x[k]'h).toNat_lt; omega
  go_enter Try.func168, Try.ntmps168
  go_wp2
  go_ret
  exact ⟨rfl, Below.refl _ _⟩

end Go.Proofs.Ythjbdcoklgnnlab

/-! ### PlacesS -/
namespace Go.Proofs.Ythjbdcoklgnnlab
set_option linter.unusedVariables false
set_option linter.unusedSimpArgs false
open Go.RowKit

end Go.Proofs.Ythjbdcoklgnnlab

/-! ### PlacesI -/
namespace Go.Proofs.Ythjbdcoklgnnlab
set_option linter.unusedVariables false
set_option linter.unusedSimpArgs false
open Go.RowKit Go.Shelf
attribute [local go_sem] Oper.semAt_some

set_option maxRecDepth 100000 in
set_option maxHeartbeats 2000000 in
theorem impl_PlacesOf_ok (x u : ByteArray) (w : World) (h : IsW x ∧ IsW u) (hx : x.size ≤ 60) (hu : u.size ≤ 60) :
    CallsIn Fence.wide 4 Try.prog 68 #[.string x, .string u] w (RetI (posOf x u (List.range (x.size + 1 - u.size))) 0 w) := by
  have H := Lib.hid h
  clear h
  obtain ⟨i0, hi, hz0, hz1, hz2⟩ := info_parts infoI64
  refine callsIn_of_wp_marks Try.func68 rfl trivial ?_ rfl
  simp only [Try.ntmps68, List.size_toArray, List.length_cons, List.length_nil, Nat.reduceAdd, Nat.reduceSub, Array.replicate_succ, Array.replicate_zero, List.push_toArray, List.append_toArray, List.nil_append, List.cons_append]
  gi_wp2_with (first | (refine ⟨trivial, ?_⟩; gi_at_call 104; refine (callsIn_wide.2 (areWords2_yes _ x u _ (by simp) (by simp [go_sem]) (by simp [go_sem]) H.out.1 H.out.2)).mono ?_; rintro e w1 ⟨rfl, b1⟩; have hbu : Boxed w1 w.heap.size 9 (.string u) := (b1.block w.heap.size (by simp; omega)).trans ((Boxed.new w 9 (.string u)).alloc _); have hbc := (hbu.alloc (.cells #[.slice none 0 0] 34)).cell) | (refine ⟨trivial, ?_⟩; gi_at_call 106; refine (factorsIn_in Fence.wide _ trivial rfl _ _ _).mono ?_; rintro e w2 ⟨rfl, rfl⟩))
  have hw1 : w.heap.size + 2 ≤ w1.heap.size := by have := b1.size; simp at this; omega
  have hB0 : Below w.heap.size w (((w1.alloc (.cells #[.slice none 0 0] 34)).alloc (.cells #[.string x] 9)).alloc (.cells #[.int .i64 (u.size : Int)] 2)) :=
    ((((((Below.refl w.heap.size w).alloc (Nat.le_refl _) _).alloc (by simp) _).trans (b1.mono (by simp; omega))).alloc (by omega) _).alloc (by simp; omega) _).alloc (by simp; omega) _
  have p0 : Boxed (((w1.alloc (.cells #[.slice none 0 0] 34)).alloc (.cells #[.string x] 9)).alloc (.cells #[.int .i64 (u.size : Int)] 2)) w1.heap.size 34 (.slice none 0 0) := ((Boxed.new w1 _ _).alloc _).alloc _
  have q2 : Boxed (((w1.alloc (.cells #[.slice none 0 0] 34)).alloc (.cells #[.string x] 9)).alloc (.cells #[.int .i64 (u.size : Int)] 2)) (w1.heap.size + 1) 9 (.string x) := by
    have := Boxed.new (w1.alloc (.cells #[.slice none 0 0] 34)) 9 (.string x)
    rw [World.size_alloc] at this
    exact this.alloc _
  have q1 : Boxed (((w1.alloc (.cells #[.slice none 0 0] 34)).alloc (.cells #[.string x] 9)).alloc (.cells #[.int .i64 (u.size : Int)] 2)) (w1.heap.size + 1 + 1) 2 (.int .i64 (u.size : Int)) := by
    have := Boxed.new ((w1.alloc (.cells #[.slice none 0 0] 34)).alloc (.cells #[.string x] 9)) 2 (.int .i64 (u.size : Int))
    simp only [World.size_alloc] at this
    exact this
  have q3 : Boxed (((w1.alloc (.cells #[.slice none 0 0] 34)).alloc (.cells #[.string x] 9)).alloc (.cells #[.int .i64 (u.size : Int)] 2)) w.heap.size 9 (.string u) := ((hbu.alloc _).alloc _).alloc _
  have hs0 : (((w1.alloc (.cells #[.slice none 0 0] 34)).alloc (.cells #[.string x] 9)).alloc (.cells #[.int .i64 (u.size : Int)] 2)).heap.size = w1.heap.size + 3 := by simp
  generalize hW0 : (((w1.alloc (.cells #[.slice none 0 0] 34)).alloc (.cells #[.string x] 9)).alloc (.cells #[.int .i64 (u.size : Int)] 2)) = W0 at hB0 p0 q1 q2 q3 hs0 ⊢
  clear hW0 hbc hbu b1
  refine wpIn_rangeFunc_ownG rfl (by decide) (gf := 155) (lb := #[.pointer (some ⟨w1.heap.size + 1 + 1, 0, none⟩), .pointer (some ⟨w1.heap.size + 1, 0, none⟩)]) rfl trivial (enters_of Try.func155 (by kernel_rfl) rfl)
    (factors_stops Fence.wide 3 trivial rfl (by decide) (w1.heap.size + 1 + 1) (w1.heap.size + 1) w.heap.size x u.size hx hu W0 q1 q2) kpF_t (kpF_b (by omega) (by omega) (by omega)) (Below.refl _ _) (fun _ => rfl)
    (fun pre W => (((∃ v, Boxed W w1.heap.size 34 v ∧ W.ownsRow W0.heap.size 2 1 v (posOf x u pre).length ((posOf x u pre).map (Value.int .i64)) ∧ True) ∧ Boxed W w.heap.size 9 (.string u)) ∧ (Boxed W (w1.heap.size + 1 + 1) 2 (.int .i64 (u.size : Int)) ∧ Boxed W (w1.heap.size + 1) 9 (.string x))) ∧ Below w.heap.size w W)
    (fun _ _ _ => False)
    (OwnFrom.and (OwnFrom.and (OwnFrom.and (Own.from (holdsRow_own W0.heap.size w1.heap.size 34 2 1 (fun pre => (posOf x u pre).length) (fun pre => (posOf x u pre).map (Value.int .i64)) (fun pre v => True)) _) (Own.from (boxed_own _ _ _) _)) (OwnFrom.and (Own.from (boxed_own _ _ _) _) (Own.from (boxed_own _ _ _) _))) (ownFrom_below (Nat.le_refl _) (by omega)))
    (fun _ _ _ _ _ hs _ _ => hs)
    ⟨⟨⟨⟨_, p0, World.ownsRow_nil _ _ _ _, trivial⟩, q3⟩, q1, q2⟩, hB0⟩
    (fun i => { tmps := #[.string x, .string u, undef, .pointer (some ⟨w.heap.size, 0, none⟩), .slice none 0 0, .int .i64 0, .pointer (some ⟨w1.heap.size, 0, none⟩), .int .i64 (i : Int), .string (x.extract i (i + u.size)), .string x, .string u, .slice (some ⟨w.heap.size + 1, 0, none⟩) 2 2, .bool true, .bool false, .string x, .string u, .int .i64 (u.size : Int), .func (.func 155) #[] #[.pointer (some ⟨w1.heap.size + 1 + 1, 0, none⟩), .pointer (some ⟨w1.heap.size + 1, 0, none⟩)], .int .i64 (i : Int), .string (x.extract i (i + u.size)), undef, undef, undef, undef, undef, undef, undef, undef], defers := [] }) ?assign ?body ?done ?stop
  case assign =>
    intro l i W K hK
    gi_wp2
    exact hK
  case body =>
    rintro l pre i W ⟨⟨⟨⟨v, hv, hrow, _⟩, r3⟩, r1, r2⟩, hB⟩ hlt
    have hc := hv.cell
    have c3 := r3.cell
    have hpl := posOf_len x u pre
    have hbz := hB.size
    have hz := hrow.lt
    have hWz : W0.heap.size ≤ W.heap.size := by have := r1.lt; omega
    by_cases he : x.extract i (i + u.size) = u
    · have hsn := posOf_hit x u pre he
      have hq := teq_yes he
      gi_wp2_with (gi_at_builtin; refine wpListIn_append_own _ rfl _ _ 34 rfl W0.heap.size 2 i0 (.int .i64 0) 1 8 Try.underlying34 hi hz0 hz1 hz2 rfl (by decide) _ _ _ rfl (hrow.alloc _) ⟨W.heap.size, 0, none⟩ 1 1 [.int .i64 (i : Int)] rfl rfl (cell_one_new _ _ _) (by simp [Value.oneCell']) (by unfold maxLen; omega) (by omega) (by simp; omega) ?_; intro v' w2 hown' hgrow _; obtain ⟨g', cap', rfl⟩ := ownsRow_succ hown'; obtain ⟨hv1, hv2, hr2, hk2, hb2, hfr⟩ := appended2 (n₀ := w.heap.size) hv (by decide) hrow (by omega) hWz (by omega) (by omega) hown' hgrow; have hc1 := hv1.cell; have hf1 := hv1.frozen)
      refine ⟨hk2.from _, ⟨hb2, hfr _ (by omega) (by omega), hfr _ (by omega) (by omega)⟩, ⟨⟨⟨_, hv2, ?_, trivial⟩, (hfr _ (by omega) (by omega)).trans r3⟩, (hfr _ (by omega) (by omega)).trans r1, (hfr _ (by omega) (by omega)).trans r2⟩, hB.trans hb2⟩
      rw [hsn, List.length_append, ← map_snoc]
      exact hr2
    · have hsn := posOf_miss x u pre he
      have hq := teq_no he
      gi_wp2
      exact ⟨KeepsFrom.refl _ _, ⟨Below.refl _ _, rfl, rfl⟩, ⟨⟨⟨v, hv, by rw [hsn]; exact hrow, trivial⟩, r3⟩, r1, r2⟩, hB⟩
  case done =>
    rintro D ys W hD rfl ⟨⟨⟨⟨v, hv, hrow, _⟩, r3⟩, r1, r2⟩, hB⟩ hK
    have hc := hv.cell
    gi_wp2
    refine ⟨by simp, .inl ⟨_, _, rfl, run_takeDeferred hK, ?_⟩⟩
    exact ⟨_, results_tmp2 rfl _ _ _, v, rfl, own_base (ownsRow_putObj hrow _ hK rfl) (by omega), hB.trans (belowK_b (w := w) (Nat.le_refl _) W D _ _ (by omega) hK rfl rfl)⟩
  case stop =>
    rintro D c pre W _ _ h _
    exact h.elim

set_option maxRecDepth 100000 in
theorem impl_PlacesOf_bad (x u : ByteArray) (w : World) (sx : x.size ≤ maxLen) (su : u.size ≤ maxLen) (h : ¬ (IsW x ∧ IsW u)) :
    CallsIn Fence.wide 4 Try.prog 68 #[.string x, .string u] w (RetI [] 1 w) := by
  have H := Lib.hid h
  clear h
  refine callsIn_of_wp_marks Try.func68 rfl trivial ?_ rfl
  simp only [Try.ntmps68, List.size_toArray, List.length_cons, List.length_nil, Nat.reduceAdd, Nat.reduceSub, Array.replicate_succ, Array.replicate_zero, List.push_toArray, List.append_toArray, List.nil_append, List.cons_append]
  gi_wp2_with (refine ⟨trivial, ?_⟩; gi_at_call 104; refine (callsIn_wide.2 (areWords2_no _ x u _ (by simp) (by simp [go_sem]) (by simp [go_sem]) sx su H.out)).mono ?_; rintro e w1 ⟨rfl, b1⟩)
  have hB1 : Below w.heap.size w w1 := ((((Below.refl w.heap.size w).alloc (Nat.le_refl _) _).alloc (by simp) _).trans (b1.mono (by simp; omega)))
  exact ⟨_, results_tmp2 rfl _ _ _, _, rfl, OwnI.nil _ _, hB1⟩

theorem impl_PlacesOf (x u : ByteArray) (w : World) (sx : x.size ≤ maxLen) (su : u.size ≤ maxLen) :
    Calls Try.prog 68 #[.string x, .string u] w (RetI (placesR x u).1 (placesR x u).2 w) := by
  by_cases h : IsW x ∧ IsW u
  · rw [placesR_ok h]
    exact callsIn_wide.1 (impl_PlacesOf_ok x u w h h.1.size h.2.size)
  · rw [placesR_bad h]
    exact callsIn_wide.1 (impl_PlacesOf_bad x u w sx su h)

end Go.Proofs.Ythjbdcoklgnnlab

/-! ### IsRow -/
namespace Go.Proofs.Ythjbdcoklgnnlab
set_option linter.unusedVariables false
open Go.RowKit
/-- It is nil; or it leads to a row of 'cap' cells, the numbers 'zs' (the first 'len' are its elements), each fitting its kind. -/
def IsRow (k : IntKind) (w : World) (a : Option Addr) (len cap : Nat) (zs : List Int) : Prop :=
  (a = none ∧ len = 0 ∧ cap = 0 ∧ zs = []) ∨
  ∃ x, a = some x ∧ len ≤ cap ∧ cap ≤ maxLen ∧ zs.length = cap ∧ (∀ i, i < zs.length → w.cell? (x.add i) = some (.int k (zs.getD i 0))) ∧ ∀ n ∈ zs, (Lit.int k n).wf = true
theorem IsRow.below {k : IntKind} {w w' : World} {a : Option Addr} {len cap : Nat} {zs : List Int} (h : IsRow k w a len cap zs) (b : Below w.heap.size w w') : IsRow k w' a len cap zs := by
  rcases h with h | ⟨x, h1, h2, h3, h4, h5, h6⟩
  · exact .inl h
  · exact .inr ⟨x, h1, h2, h3, h4, fun i hi => by rw [b.cell (World.block_lt_of_cell? _ _ (h5 i hi))]; exact h5 i hi, h6⟩
theorem IsRow.len_le {k : IntKind} {w : World} {a : Option Addr} {len cap : Nat} {zs : List Int} (h : IsRow k w a len cap zs) : len ≤ 9223372036854775807 := by
  rcases h with ⟨_, h, _⟩ | ⟨x, h1, h2, h3, _⟩
  · omega
  · unfold maxLen at h3; omega
end Go.Proofs.Ythjbdcoklgnnlab

/-! ### Src -/
namespace Go.Proofs.Ythjbdcoklgnnlab
set_option linter.unusedVariables false
set_option linter.unusedSimpArgs false
open Go.RowKit

/-- A source of draws in a block of the call's own: a row of bytes that came in, a place in it, a number. -/
def Src (w0 W : World) (b : Nat) : Prop := ∃ (a : Option Addr) (len cap : Nat) (zs : List Int) (p : Nat) (h : Int),
  W.heap[b]? = some (.cells #[.slice a len cap, .int .i64 (p : Int), .int .u64 h] 139) ∧ IsRow .u8 w0 a len cap zs ∧ p ≤ len ∧ len ≤ 1048576 ∧ 0 ≤ h ∧ h < 18446744073709551616 ∧ w0.heap.size ≤ b

theorem wrap_u64 (y : Int) : IntKind.u64.wrap y = y % 18446744073709551616 := by
  unfold IntKind.wrap
  simp [show IntKind.u64.signed = false from rfl, show IntKind.u64.bits = 64 from rfl]
theorem wrap_in (y : Int) : 0 ≤ IntKind.u64.wrap y ∧ IntKind.u64.wrap y < 18446744073709551616 := by
  rw [wrap_u64]
  omega
theorem and_bound (y : Int) : 0 ≤ wrap64 (bits .and .u64 y 16777215) ∧ wrap64 (bits .and .u64 y 16777215) ≤ 16777215 := by
  have h : bits .and .u64 y 16777215 = IntKind.u64.wrap ((BitVec.ofInt 64 y &&& BitVec.ofInt 64 16777215).toNat : Int) := rfl
  have h2 : (BitVec.ofInt 64 y &&& BitVec.ofInt 64 16777215).toNat ≤ 16777215 := by
    rw [BitVec.toNat_and]
    exact Nat.le_trans Nat.and_le_right (by decide)
  rw [h, wrap_u64]
  unfold wrap64
  omega
/-- The three cells of a source. -/
theorem src_cells {W : World} {b : Nat} {x y z : Value} {t : TypeId} (hb : W.heap[b]? = some (.cells #[x, y, z] t)) :
    W.cell? ⟨b, 0, none⟩ = some x ∧ W.cell? ⟨b, 1, none⟩ = some y ∧ W.cell? ⟨b, 2, none⟩ = some z ∧ W.frozen? ⟨b, 0, none⟩ = false ∧ W.frozen? ⟨b, 1, none⟩ = false ∧ W.frozen? ⟨b, 2, none⟩ = false := by
  simp [World.cell?, World.frozen?, hb]
theorem src_set2 {W : World} {b : Nat} {x y z : Value} {t : TypeId} (hb : W.heap[b]? = some (.cells #[x, y, z] t)) (v : Value) : (W.setCell ⟨b, 2, none⟩ v).heap[b]? = some (.cells #[x, y, v] t) := by
  obtain ⟨hlt, hk⟩ := Array.getElem?_eq_some_iff.1 hb
  show (W.heap.modify b _)[b]? = _
  rw [Array.getElem?_eq_getElem (by rw [Array.size_modify]; exact hlt), Array.getElem_modify_self, hk]
  rfl
theorem src_set1 {W : World} {b : Nat} {x y z : Value} {t : TypeId} (hb : W.heap[b]? = some (.cells #[x, y, z] t)) (v : Value) : (W.setCell ⟨b, 1, none⟩ v).heap[b]? = some (.cells #[x, v, z] t) := by
  obtain ⟨hlt, hk⟩ := Array.getElem?_eq_some_iff.1 hb
  show (W.heap.modify b _)[b]? = _
  rw [Array.getElem?_eq_getElem (by rw [Array.size_modify]; exact hlt), Array.getElem_modify_self, hk]
  rfl
theorem grown_set0 {w w' : World} {g : Nat} (h : w.grownBy w' (some g)) (j : Nat) (u : Value) : w.grownBy (w'.setCell ⟨g, j, none⟩ u) (some g) := grown_set h j u
theorem grown_drewN {w w' : World} {r : Option Nat} (h : w.grownBy w' r) (n : Nat) : w.grownBy (w'.drewN n) r := ⟨h.os, h.tape, h.output, h.size, h.block⟩

set_option maxRecDepth 100000 in
set_option maxHeartbeats 1000000 in
theorem l01Next_any (w0 W : World) (b : Nat) (n : Int) (hS : Src w0 W b) (hB : Below w0.heap.size w0 W) (hn : n ≤ 4611686018427387904) (hn2 : -4611686018427387905 ≤ n) :
    Calls Try.prog 119 #[.pointer (some ⟨b, 0, none⟩), .int .i64 n] W fun e W' => ∃ v : Int, e = .returned (.int .i64 v) ∧ (n < 1 → v = 0) ∧ (1 ≤ n → 0 ≤ v ∧ v < n) ∧ Src w0 W' b ∧ W.grownBy W' (some b) := by
  by_cases h1 : n < 1
  · have HS := Lib.hid hS
    clear hS
    go_enter Try.func119, Try.ntmps119
    go_wp2
    go_ret
    exact ⟨0, rfl, fun _ => rfl, fun h => by omega, HS.out, grown_refl _ _⟩
  · obtain ⟨a, len, cap, zs, p, h, hb, hR, hp, hl, h0, h64, hwb⟩ := hS
    have c0 : W.cell? ⟨b, 0, none⟩ = some (.slice a len cap) := by simp [World.cell?, hb]
    have c1 : W.cell? ⟨b, 1, none⟩ = some (.int .i64 (p : Int)) := by simp [World.cell?, hb]
    have c2 : W.cell? ⟨b, 2, none⟩ = some (.int .u64 h) := by simp [World.cell?, hb]
    have f1 : W.frozen? ⟨b, 1, none⟩ = false := by simp [World.frozen?, hb]
    have f2 : W.frozen? ⟨b, 2, none⟩ = false := by simp [World.frozen?, hb]
    have hw1 := wrap_in (IntKind.u64.wrap (h * 6364136223846793005) + 1442695040888963407)
    have hbd := and_bound (IntKind.u64.wrap (IntKind.u64.wrap (h * 6364136223846793005) + 1442695040888963407) / 8589934592)
    by_cases hpl : p < len
    · obtain ⟨y, rfl, hz1, hz2, hcell, hwf⟩ : ∃ y, a = some y ∧ p < cap ∧ cap ≤ maxLen ∧ w0.cell? (y.add p) = some (.int .u8 (zs.getD p 0)) ∧ (0 ≤ zs.getD p 0 ∧ zs.getD p 0 ≤ 255) := by
        rcases hR with ⟨_, h2, _⟩ | ⟨y, h2, h3, h4, h5, h6, h7⟩
        · omega
        · refine ⟨y, h2, by omega, h4, h6 p (by omega), ?_⟩
          have hm := h7 (zs.getD p 0) (by rw [List.getD_eq_getElem?_getD, List.getElem?_eq_getElem (by omega)]; exact List.getElem_mem _)
          have : (IntKind.u8.min ≤ zs.getD p 0 ∧ zs.getD p 0 ≤ IntKind.u8.max) := by simpa [Lit.wf] using hm
          exact this
      have HR := Lib.hid hR
      clear hR
      generalize zs.getD p 0 = z at *
      go_enter Try.func119, Try.ntmps119
      go_wp2
      generalize wrap64 (bits .and .u64 (IntKind.u64.wrap (IntKind.u64.wrap (h * 6364136223846793005) + 1442695040888963407) / 8589934592) 16777215) = x at hbd ⊢
      generalize hh : IntKind.u64.wrap (IntKind.u64.wrap (h * 6364136223846793005) + 1442695040888963407) = h2 at hw1 ⊢
      have hb2 := src_set2 hb (.int .u64 h2)
      have hg2 := grown_set (grown_refl W (some b)) 2 (.int .u64 h2)
      have hB2 := hB.grown hg2 hB.size (fun k e => by cases e; exact hwb)
      have hzc : (W.setCell ⟨b, 2, none⟩ (.int .u64 h2)).cell? (y.add p) = some (.int .u8 z) := by rw [hB2.cell (World.block_lt_of_cell? _ _ hcell)]; exact hcell
      clear c0 c1 c2 f1 f2 hb hcell
      generalize W.setCell ⟨b, 2, none⟩ (.int .u64 h2) = W1 at hb2 hg2 hB2 hzc ⊢
      obtain ⟨c0, c1, c2, f0, f1, f2⟩ := src_cells hb2
      have hpl2 : (p : Int) < (len : Int) := by omega
      go_quiet (fail)
      go_wp2
      go_quiet (fail)
      go_wp2
      go_ret
      exact ⟨(x + z) % n, rfl, fun h => by omega, fun _ => ⟨Int.emod_nonneg _ (by omega), Int.emod_lt_of_pos _ (by omega)⟩, ⟨some y, len, cap, zs, p + 1, h2, by rw [show ((p + 1 : Nat) : Int) = (p : Int) + 1 by omega]; exact src_set1 hb2 _, HR.out, by omega, hl, hw1.1, hw1.2, hwb⟩, grown_set (grown_drewN hg2 _) 1 _⟩
    · go_enter Try.func119, Try.ntmps119
      go_wp2
      generalize wrap64 (bits .and .u64 (IntKind.u64.wrap (IntKind.u64.wrap (h * 6364136223846793005) + 1442695040888963407) / 8589934592) 16777215) = x at hbd ⊢
      generalize hh : IntKind.u64.wrap (IntKind.u64.wrap (h * 6364136223846793005) + 1442695040888963407) = h2 at hw1 ⊢
      have hb2 := src_set2 hb (.int .u64 h2)
      have hg2 := grown_set (grown_refl W (some b)) 2 (.int .u64 h2)
      clear c0 c1 c2 f1 f2 hb
      generalize W.setCell ⟨b, 2, none⟩ (.int .u64 h2) = W1 at hb2 hg2 ⊢
      obtain ⟨c0, c1, c2, f0, f1, f2⟩ := src_cells hb2
      have hpl2 : ¬ (p : Int) < (len : Int) := by omega
      go_quiet (fail)
      go_wp2
      go_ret
      exact ⟨x % n, rfl, fun h => by omega, ⟨Int.emod_nonneg _ (by omega), Int.emod_lt_of_pos _ (by omega)⟩, ⟨a, len, cap, zs, p, h2, hb2, hR, hp, hl, hw1.1, hw1.2, hwb⟩, grown_drewN hg2 _⟩

end Go.Proofs.Ythjbdcoklgnnlab

/-! ### WordOfPlain -/
namespace Go.Proofs.Ythjbdcoklgnnlab
set_option linter.unusedVariables false
set_option linter.unusedSimpArgs false
open Go.RowKit

def okN (L : List Int) : Prop := ∀ j (h : j < L.length), 0 ≤ L[j]'h ∧ L[j]'h ≤ 4
instance (L : List Int) : Decidable (okN L) := by unfold okN; exact inferInstance
def okTo (L : List Int) (k : Nat) : Prop := ∀ j (h : j < L.length), j < k → 0 ≤ L[j]'h ∧ L[j]'h ≤ 4
theorem okTo.zero (L : List Int) : okTo L 0 := fun _ _ h => by omega
theorem okTo.succ {L : List Int} {k : Nat} (h : okTo L k) (hk : k < L.length) (h1 : 0 ≤ L[k]'hk) (h2 : L[k]'hk ≤ 4) : okTo L (k + 1) := by
  intro i hi hik
  by_cases e : i = k
  · subst e; exact ⟨h1, h2⟩
  · exact h i hi (by omega)
theorem okTo.whole {L : List Int} {k : Nat} (h : okTo L k) (hk : L.length ≤ k) : okN L := fun i hi => h i hi (by omega)
theorem okN_nil : okN [] := fun _ h => by simp at h
def letB (n : Int) : UInt8 := UInt8.ofNat (97 + n.toNat)
theorem letB_nat {n : Int} (h0 : 0 ≤ n) (h4 : n ≤ 4) : ((letB n).toNat : Int) = 97 + n := by
  unfold letB
  rw [UInt8.toNat_ofNat', Nat.mod_eq_of_lt (by omega)]
  omega
def wordL (L : List Int) : List UInt8 := L.map letB
def wordB (L : List Int) : ByteArray := ⟨(wordL L).toArray⟩
theorem wordL_snoc (L : List Int) (k : Nat) (h : k < L.length) : wordL (L.take k) ++ [letB (L[k]'h)] = wordL (L.take (k + 1)) := by
  rw [List.take_succ_eq_append_getElem h]
  unfold wordL
  rw [List.map_append]
  rfl
theorem wordL_len (L : List Int) (k : Nat) (h : k ≤ L.length) : (wordL (L.take k)).length = k := by simp [wordL]; omega
theorem runeCells_letter {n : Int} (h0 : 0 ≤ n) (h4 : n ≤ 4) : Lib.runeCells (97 + n) = Lib.byteCells [letB n] := by
  unfold Lib.runeCells Lib.byteCells
  rw [Lib.encodeRuneZ_one (by omega) (by omega)]
  simp [letB_nat h0 h4]
def wolR (L : List Int) : ByteArray × Int := if 60 < L.length ∨ ¬ okN L then (tE, 2) else (wordB L, 0)
theorem wolR_bad {L : List Int} (h : 60 < L.length ∨ ¬ okN L) : wolR L = (⟨#[]⟩, 2) := if_pos h
theorem wolR_ok {L : List Int} (h : L.length ≤ 60) (h2 : okN L) : wolR L = (wordB L, 0) := if_neg (by intro h3; rcases h3 with h3 | h3; omega; exact h3 h2)
theorem wordB_push (L : List Int) (k : Nat) (h : k < L.length) : (⟨(wordL (L.take k)).toArray⟩ : ByteArray) ++ ⟨#[letB (L[k]'h)]⟩ = ⟨(wordL (L.take (k + 1))).toArray⟩ := by
  apply ByteArray.ext
  rw [ByteArray.data_append]
  rw [← wordL_snoc L k h]
  simp

end Go.Proofs.Ythjbdcoklgnnlab

/-! ### Letter -/
namespace Go.Proofs.Ythjbdcoklgnnlab
set_option linter.unusedVariables false
set_option linter.unusedSimpArgs false
open Go.RowKit

set_option maxRecDepth 100000 in
theorem l01Letter_any (n : Int) (w : World) (h0 : 0 ≤ n) (h4 : n ≤ 4) :
    Calls Try.prog 103 #[.int .i64 n] w fun e w' => e = .returned (.string ⟨#[letB n]⟩) ∧ Below w.heap.size w w' := by
  have hb := letB_nat h0 h4
  have hcv : (convert 31 9 (.slice (some ⟨w.heap.size, 0, none⟩) 1 1)).run Try.prog (w.alloc (.cells #[.int .u8 (97 + n)] 5)) = .ok (.string ⟨#[letB n]⟩) (w.alloc (.cells #[.int .u8 (97 + n)] 5)) := by
    refine run_convert_bytes_back _ _ _ 5 _ _ [letB n] Try.underlying31 Try.underlying5 Try.underlying9 ?_
    intro j hj
    match j, hj with
    | 0, _ =>
      rw [← hb]
      simp [Addr.add, World.cell?_alloc_new]
  clear hb
  go_enter Try.func103, Try.ntmps103
  go_wp2
  go_ret
  exact ⟨rfl, Below.new _ _⟩

end Go.Proofs.Ythjbdcoklgnnlab

/-! ### Draw -/
namespace Go.Proofs.Ythjbdcoklgnnlab
set_option linter.unusedVariables false
set_option linter.unusedSimpArgs false
open Go.RowKit

theorem Src.lt {w0 W : World} {b : Nat} (h : Src w0 W b) : b < W.heap.size := by
  obtain ⟨_, _, _, _, _, _, hb, _⟩ := h
  exact (Array.getElem?_eq_some_iff.1 hb).1
theorem Src.ge {w0 W : World} {b : Nat} (h : Src w0 W b) : w0.heap.size ≤ b := by
  obtain ⟨_, _, _, _, _, _, _, _, _, _, _, _, h⟩ := h
  exact h
theorem Src.below {w0 W W' : World} {b : Nat} (h : Src w0 W b) (k : Below W.heap.size W W') : Src w0 W' b := by
  have hl := h.lt
  obtain ⟨a, len, cap, zs, p, q, hb, r⟩ := h
  exact ⟨a, len, cap, zs, p, q, by rw [k.block b hl]; exact hb, r⟩
theorem grown_of_below {W W' : World} (k : Below W.heap.size W W') (r : Option Nat) : W.grownBy W' r := ⟨k.os, k.tape, k.output, k.size, fun j hj _ => k.block j hj⟩
theorem grown_trans {A B C : World} {r : Option Nat} (h : A.grownBy B r) (k : B.grownBy C r) : A.grownBy C r :=
  ⟨k.os.trans h.os, k.tape.trans h.tape, k.output.trans h.output, Nat.le_trans h.size k.size, fun j hj hne => (k.block j (Nat.lt_of_lt_of_le hj h.size) hne).trans (h.block j hj hne)⟩
theorem below_src {w0 W W' : World} {b : Nat} (hB : Below w0.heap.size w0 W) (hb : w0.heap.size ≤ b) (g : W.grownBy W' (some b)) : Below w0.heap.size w0 W' :=
  hB.grown g hB.size (fun k e => by cases e; exact hb)

theorem grown_cell {W W1 : World} {r : Option Nat} (g : W.grownBy W1 r) {p : Addr} (hp : p.block < W.heap.size) (hne : some p.block ≠ r) : W1.cell? p = W.cell? p := by
  unfold World.cell?
  rw [g.block _ hp hne]
/-- What a drawing function that hands back a text comes to: some text of at most N bytes. -/
def DrawnT (N : Nat) (w0 W : World) (b : Nat) (e : Ending) (W' : World) : Prop := ∃ x : ByteArray, e = .returned (.string x) ∧ x.size ≤ N ∧ Src w0 W' b ∧ W.grownBy W' (some b)
def DrawnI (lo hi : Int) (w0 W : World) (b : Nat) (e : Ending) (W' : World) : Prop := ∃ v : Int, e = .returned (.int .i64 v) ∧ lo ≤ v ∧ v ≤ hi ∧ Src w0 W' b ∧ W.grownBy W' (some b)

/-- The next number. -/
theorem l01Next_i (w0 W : World) (b : Nat) (n : Int) (hS : Src w0 W b) (hB : Below w0.heap.size w0 W) (h1 : 1 ≤ n) (hn : n ≤ 4611686018427387904) :
    Calls Try.prog 119 #[.pointer (some ⟨b, 0, none⟩), .int .i64 n] W (DrawnI 0 (n - 1) w0 W b) := by
  refine (l01Next_any w0 W b n hS hB hn (by omega)).mono ?_
  rintro e W' ⟨v, rfl, _, h2, h3, h4⟩
  have h5 := h2 h1
  exact ⟨v, rfl, h5.1, by omega, h3, h4⟩
theorem l01Next_0 (w0 W : World) (b : Nat) (n : Int) (hS : Src w0 W b) (hB : Below w0.heap.size w0 W) (h1 : 0 ≤ n) (hn : n ≤ 4611686018427387904) :
    Calls Try.prog 119 #[.pointer (some ⟨b, 0, none⟩), .int .i64 n] W (DrawnI 0 n w0 W b) := by
  refine (l01Next_any w0 W b n hS hB hn (by omega)).mono ?_
  rintro e W' ⟨v, rfl, h1', h2, h3, h4⟩
  refine ⟨v, rfl, ?_, ?_, h3, h4⟩
  · by_cases h : n < 1
    · rw [h1' h]; exact Int.le_refl _
    · exact (h2 (by omega)).1
  · by_cases h : n < 1
    · rw [h1' h]; omega
    · have := (h2 (by omega)).2; omega

theorem cells_new_ints (W : World) (xs : List Int) (t : TypeId) : ∀ j (h : j < xs.length), (W.alloc (.cells (xs.map (Value.int .i64)).toArray t)).cell? ⟨W.heap.size, j, none⟩ = some (.int .i64 (xs[j]'h)) := by
  intro j h
  rw [World.cell?_alloc_new]
  simp [h]

set_option maxRecDepth 100000 in
theorem l01Pick_any (w0 W : World) (b g : Nat) (xs : List Int) (hS : Src w0 W b) (hB : Below w0.heap.size w0 W) (hg : g < W.heap.size) (hgb : g ≠ b) (h0 : 0 < xs.length) (hn : xs.length ≤ 60)
    (hc : ∀ j (h : j < xs.length), W.cell? ⟨g, j, none⟩ = some (.int .i64 (xs[j]'h))) :
    Calls Try.prog 97 #[.pointer (some ⟨b, 0, none⟩), .slice (some ⟨g, 0, none⟩) xs.length xs.length] W fun e W' => ∃ v : Int, e = .returned (.int .i64 v) ∧ v ∈ xs ∧ Src w0 W' b ∧ W.grownBy W' (some b) := by
  have CN := Lib.hid (l01Next_i w0 W b xs.length hS hB (by omega) (by omega))
  have HC := Lib.hid hc
  clear hc hS
  go_enter Try.func97, Try.ntmps97
  go_wp2_with fail
  refine CN.out.mono ?_
  rintro e W1 ⟨v, rfl, v0, v1, s1, g1⟩
  obtain ⟨m, rfl⟩ := Int.eq_ofNat_of_zero_le v0
  have hm : m < xs.length := by omega
  have k1 : W1.cell? ⟨g, m, none⟩ = some (.int .i64 (xs[m]'hm)) := by
    rw [grown_cell g1 (p := ⟨g, m, none⟩) hg (fun e => hgb (Option.some.inj e))]; exact HC.out m hm
  have HM := Lib.hid (List.getElem_mem hm)
  generalize xs[m]'hm = z at k1 HM
  go_wp2
  go_ret
  exact ⟨z, rfl, HM.out, s1, g1⟩

set_option maxRecDepth 100000 in
set_option maxHeartbeats 1000000 in
theorem l01DrawOf_any (w0 W : World) (b : Nat) (n k : Int) (hS : Src w0 W b) (hB : Below w0.heap.size w0 W) (hn : n ≤ 100) (hn0 : 0 ≤ n) (hk1 : 1 ≤ k) (hk5 : k ≤ 5) :
    Calls Try.prog 121 #[.pointer (some ⟨b, 0, none⟩), .int .i64 n, .int .i64 k] W fun e W' => ∃ x : ByteArray, e = .returned (.string x) ∧ (x.size : Int) = n ∧ Src w0 W' b ∧ W.grownBy W' (some b) := by
  have HB0 := hS.ge
  obtain ⟨N, rfl⟩ := Int.eq_ofNat_of_zero_le hn0
  go_enter Try.func121, Try.ntmps121
  go_wp2
  go_loopg [7, 8] N (fun g s7 s8 wr => ∃ (j : Nat) (x : ByteArray), j + g = N ∧ x.size = j ∧ s7 = .string x ∧ s8 = .int .i64 (j : Int) ∧ Src w0 wr b ∧ W.grownBy wr (some b))
  case atStart => exact ⟨0, ⟨#[]⟩, by omega, rfl, rfl, rfl, hS, grown_refl _ _⟩
  case round =>
    clear hS
    obtain ⟨j, x, hj, hx, rfl, rfl, hS, hG⟩ := hrel
    by_cases hp : j < N
    · obtain ⟨g, rfl⟩ : ∃ g, gk = g + 1 := ⟨gk - 1, by omega⟩
      have hB1 := below_src hB HB0 hG
      have CN := Lib.hid (l01Next_i w0 wr b k hS hB1 hk1 (by omega))
      clear hS
      go_wp2_with fail
      refine CN.out.mono ?_
      rintro e W1 ⟨v, rfl, v0, v1, s1, g1⟩
      go_wp2_with fail
      refine (l01Letter_any v _ v0 (by omega)).mono ?_
      rintro e W2 ⟨rfl, b2⟩
      have e1 : (⟨#[letB v]⟩ : ByteArray).size = 1 := rfl
      generalize (⟨#[letB v]⟩ : ByteArray) = t at *
      have hsum : ∀ W, (Op.stringOp .add x t).run Try.prog W = .ok (.string (x ++ t)) W := fun W => run_string_add_sum W x t (by omega)
      have s2 := s1.below b2
      have g2 := grown_trans (grown_trans hG g1) (grown_of_below b2 (some b))
      have hz : (x ++ t).size = j + 1 := by rw [ByteArray.size_append]; omega
      go_wp2_with fail
      go_roundg g
      case measure => omega
      case rel => exact ⟨j + 1, x ++ t, by omega, hz, rfl, by go_num, s2, g2⟩
    · have hN : Hid (j = N) := Lib.hid (by omega)
      go_wp2
      go_ret
      exact ⟨x, rfl, by have := hN.out; omega, hS, hG⟩

set_option maxRecDepth 100000 in
set_option maxHeartbeats 1000000 in
theorem l01Small_any (w0 W : World) (b : Nat) (hS : Src w0 W b) (hB : Below w0.heap.size w0 W) :
    Calls Try.prog 191 #[.pointer (some ⟨b, 0, none⟩)] W (DrawnT 10 w0 W b) := by
  have HB0 := hS.ge
  have CN := Lib.hid (l01Next_i w0 W b 11 hS hB (by omega) (by omega))
  clear hS
  go_enter Try.func191, Try.ntmps191
  go_wp2_with fail
  refine CN.out.mono ?_
  rintro e W1 ⟨v, rfl, v0, v1, s1, g1⟩
  have hB1 := below_src hB HB0 g1
  have hbl := s1.lt
  go_wp2_with fail
  refine (l01Pick_any w0 _ b _ [1, 2, 2, 2, 3, 5] (s1.below (Below.new _ _)) (hB1.alloc hB1.size _) (by simp) (by omega) (by decide) (by decide) (cells_new_ints W1 [1, 2, 2, 2, 3, 5] _)).mono ?_
  rintro e W2 ⟨k, rfl, hk, s2, g2⟩
  have hB2 := below_src (hB1.alloc hB1.size _) HB0 g2
  have hk2 : 1 ≤ k ∧ k ≤ 5 := by simp at hk; omega
  have g3 := grown_trans g1 (grown_trans (grown_of_below (Below.new W1 _) (some b)) g2)
  clear hk
  go_wp2_with fail
  refine (l01DrawOf_any w0 _ b v k s2 hB2 (by omega) v0 hk2.1 hk2.2).mono ?_
  rintro e W3 ⟨x, rfl, hx, s3, g4⟩
  go_wp2_with fail
  go_ret
  exact ⟨x, rfl, by omega, s3, grown_trans g3 g4⟩

end Go.Proofs.Ythjbdcoklgnnlab

/-! ### Draw2 -/
namespace Go.Proofs.Ythjbdcoklgnnlab
set_option linter.unusedVariables false
set_option linter.unusedSimpArgs false
open Go.RowKit

set_option maxRecDepth 100000 in
set_option maxHeartbeats 2000000 in
theorem l01From_any (a : Option Addr) (len cap : Nat) (zs : List Int) (w : World) (h : IsRow .u8 w a len cap zs) (hl : len ≤ 1048576) :
    Calls Try.prog 98 #[.slice a len cap] w fun e w' => e = .returned (.pointer (some ⟨w.heap.size, 0, none⟩)) ∧ Src w w' w.heap.size ∧ Below w.heap.size w w' := by
  have HR := Lib.hid h
  have hby : ∀ j, j < len → ∃ y z, a = some y ∧ j < cap ∧ w.cell? (y.add j) = some (.int .u8 z) ∧ 0 ≤ z ∧ z ≤ 255 := by
    intro j hj
    rcases h with ⟨_, h2, _⟩ | ⟨y, h2, h3, h4, h5, h6, h7⟩
    · omega
    · have hm := h7 (zs.getD j 0) (by rw [List.getD_eq_getElem?_getD, List.getElem?_eq_getElem (by omega)]; exact List.getElem_mem _)
      have : (IntKind.u8.min ≤ zs.getD j 0 ∧ zs.getD j 0 ≤ IntKind.u8.max) := by simpa [Lit.wf] using hm
      exact ⟨y, _, h2, by omega, h6 j (by omega), this.1, this.2⟩
  have HY := Lib.hid hby
  clear h hby
  go_enter Try.func98, Try.ntmps98
  go_wp2
  go_loopg [4] len (fun g s4 wr => ∃ (j : Nat) (q : Int), j + g = len ∧ s4 = .int .i64 (j : Int) ∧ wr.heap[w.heap.size]? = some (.cells #[.slice a len cap, .int .i64 0, .int .u64 q] 139) ∧ 0 ≤ q ∧ q < 18446744073709551616 ∧ Below w.heap.size w wr)
  case atStart =>
    refine ⟨0, _, by omega, rfl, World.alloc_heap_new w _, ?_, ?_, Below.new _ _⟩
    · omega
    · omega
  case round =>
    obtain ⟨j, q, hj, rfl, hb, q0, q1, hB⟩ := hrel
    by_cases hp : j < len
    · by_cases hp2 : (j : Int) < 4096
      · obtain ⟨g, rfl⟩ : ∃ g, gk = g + 1 := ⟨gk - 1, by omega⟩
        obtain ⟨y, z, rfl, hjc, hcell, z0, z1⟩ := HY.out j hp
        have hzc : wr.cell? (y.add j) = some (.int .u8 z) := by rw [hB.cell (World.block_lt_of_cell? _ _ hcell)]; exact hcell
        have hwi := wrap_in (IntKind.u64.wrap (IntKind.u64.wrap (q * 1099511628211) + z) + 211)
        obtain ⟨c0, c1, c2, f0, f1, f2⟩ := src_cells hb
        have hpl : (j : Int) < (len : Int) := by omega
        go_wp2
        go_region
        have hb2 := src_set2 hb (.int .u64 (IntKind.u64.wrap (IntKind.u64.wrap (IntKind.u64.wrap (q * 1099511628211) + z) + 211)))
        have hB2 : Below w.heap.size w (wr.setCell ⟨w.heap.size, 2, none⟩ (.int .u64 (IntKind.u64.wrap (IntKind.u64.wrap (IntKind.u64.wrap (q * 1099511628211) + z) + 211)))) := hB.setCell (p := ⟨w.heap.size, 2, none⟩) (Nat.le_refl _) _
        go_wp2
        go_roundg g
        case measure => omega
        case rel => exact ⟨j + 1, _, by omega, by go_num, hb2, hwi.1, hwi.2, hB2.drew⟩
      · go_wp2
        go_ret
        exact ⟨rfl, ⟨a, len, cap, zs, 0, q, hb, HR.out, by omega, hl, q0, q1, Nat.le_refl _⟩, hB⟩
    · go_wp2
      go_ret
      exact ⟨rfl, ⟨a, len, cap, zs, 0, q, hb, HR.out, by omega, hl, q0, q1, Nat.le_refl _⟩, hB⟩

set_option maxRecDepth 100000 in
set_option maxHeartbeats 1000000 in
theorem l01Near_any (w0 W : World) (b : Nat) (most : Int) (hS : Src w0 W b) (hB : Below w0.heap.size w0 W) (h0 : 0 ≤ most) (h1 : most ≤ 1000000000) :
    Calls Try.prog 111 #[.pointer (some ⟨b, 0, none⟩), .int .i64 most] W (DrawnI (-4611686018427387904) 1099511627776 w0 W b) := by
  have HB0 := hS.ge
  have CN := Lib.hid (l01Next_i w0 W b 14 hS hB (by omega) (by omega))
  clear hS
  go_enter Try.func111, Try.ntmps111
  go_wp2_with fail
  refine CN.out.mono ?_
  rintro e W1 ⟨v, rfl, v0, v1, s1, g1⟩
  have hB1 := below_src hB HB0 g1
  have hbl := s1.lt
  by_cases hv : v = 0
  · go_wp2_with fail
    refine (l01Pick_any w0 _ b _ [-1, most + 1, 1099511627776, -4611686018427387904] (s1.below (Below.new _ _)) (hB1.alloc hB1.size _) (by simp) (by omega) (by simp) (by simp) (cells_new_ints W1 [-1, most + 1, 1099511627776, -4611686018427387904] _)).mono ?_
    rintro e W2 ⟨k, rfl, hk, s2, g2⟩
    have hk2 : -4611686018427387904 ≤ k ∧ k ≤ 1099511627776 := by simp at hk; omega
    go_wp2_with fail
    go_ret
    exact ⟨k, rfl, hk2.1, hk2.2, s2, grown_trans g1 (grown_trans (grown_of_below (Below.new W1 _) (some b)) g2)⟩
  · have CM := Lib.hid (l01Next_i w0 W1 b (most + 1) s1 hB1 (by omega) (by omega))
    go_wp2_with fail
    refine CM.out.mono ?_
    rintro e W2 ⟨k, rfl, k0, k1, s2, g2⟩
    go_wp2_with fail
    go_ret
    exact ⟨k, rfl, by omega, by omega, s2, grown_trans g1 g2⟩

theorem cells_new_strs (W : World) (xs : List ByteArray) (t : TypeId) : ∀ j (h : j < xs.length), (W.alloc (.cells (xs.map Value.string).toArray t)).cell? ⟨W.heap.size, j, none⟩ = some (.string (xs[j]'h)) := by
  intro j h
  rw [World.cell?_alloc_new]
  simp [h]
def signsL : List ByteArray := [⟨#[97]⟩, ⟨#[98]⟩, ⟨#[99]⟩, ⟨#[101]⟩, ⟨#[102]⟩, ⟨#[65]⟩, ⟨#[32]⟩, ⟨#[44]⟩, ⟨#[48]⟩, ⟨#[10]⟩]
theorem signsL_size : ∀ j (h : j < signsL.length), (signsL[j]'h).size = 1 := by
  intro j h
  match j, h with
  | 0, _ | 1, _ | 2, _ | 3, _ | 4, _ | 5, _ | 6, _ | 7, _ | 8, _ | 9, _ => rfl
  | j + 10, h => simp [signsL] at h; omega

set_option maxRecDepth 100000 in
set_option maxHeartbeats 1000000 in
theorem l01Damage_any (w0 W : World) (b : Nat) (x : ByteArray) (hS : Src w0 W b) (hB : Below w0.heap.size w0 W) (hx : x.size ≤ 1000) :
    Calls Try.prog 163 #[.pointer (some ⟨b, 0, none⟩), .string x] W (DrawnT (x.size + 1) w0 W b) := by
  have HB0 := hS.ge
  have hbl0 := hS.lt
  have CN := Lib.hid (l01Next_i w0 _ b 10 (hS.below (Below.new W (.cells (signsL.map Value.string).toArray 9))) (hB.alloc hB.size _) (by omega) (by omega))
  have HC := Lib.hid (cells_new_strs W signsL 9)
  have HB1 := Lib.hid (hB.alloc hB.size (.cells (signsL.map Value.string).toArray 9))
  have HG := Lib.hid (grown_of_below (Below.new W (.cells (signsL.map Value.string).toArray 9)) (some b))
  have hz : (W.alloc (.cells (signsL.map Value.string).toArray 9)).heap.size = W.heap.size + 1 := by simp
  clear hS
  go_enter Try.func163, Try.ntmps163
  go_wp2_with fail
  refine CN.out.mono ?_
  rintro e W1 ⟨v, rfl, v0, v1, s1, g1⟩
  obtain ⟨m, rfl⟩ := Int.eq_ofNat_of_zero_le v0
  have hm : m < signsL.length := by simp [signsL]; omega
  have k1 : W1.cell? ⟨W.heap.size, m, none⟩ = some (.string (signsL[m]'hm)) := by
    rw [grown_cell g1 (p := ⟨W.heap.size, m, none⟩) (by show W.heap.size < _; omega) (fun e => by have h : W.heap.size = b := Option.some.inj e; omega)]; exact HC.out m hm
  have hcs := signsL_size m hm
  have hB1 := below_src HB1.out HB0 g1
  have g2 := grown_trans HG.out g1
  have hm10 : (m : Int) < 10 := by omega
  generalize signsL[m]'hm = c at k1 hcs
  clear g1 hz
  by_cases h0 : x.size = 0
  · have hx0 : (x.size : Int) = 0 := by omega
    go_wp2_with fail
    go_ret
    exact ⟨c, rfl, by omega, s1, g2⟩
  · have CM := Lib.hid (l01Next_i w0 W1 b x.size s1 hB1 (by omega) (by omega))
    have hx0 : ¬ (x.size : Int) = 0 := by omega
    go_wp2_with fail
    refine CM.out.mono ?_
    rintro e W2 ⟨k, rfl, k0, k1, s2, g3⟩
    obtain ⟨n, rfl⟩ := Int.eq_ofNat_of_zero_le k0
    have hn : n < x.size := by omega
    have hB2 := below_src hB1 HB0 g3
    have g4 := grown_trans g2 g3
    have CK := Lib.hid (l01Next_i w0 W2 b 3 s2 hB2 (by omega) (by omega))
    have hsl1 := fun W => slice_to x (n : Int) n rfl (by omega) W
    have hsl2 := fun W => slice_from x ((n : Int) + 1) (n + 1) (by omega) (by omega) W
    have hsl3 := fun W => slice_from x (n : Int) n rfl (by omega) W
    have z1 : (x.extract 0 n).size = n := by simp; omega
    have z2 : (x.extract (n + 1) x.size).size = x.size - (n + 1) := by simp
    have z3 : (x.extract n x.size).size = x.size - n := by simp
    generalize x.extract 0 n = x1 at *
    generalize x.extract (n + 1) x.size = x2 at *
    generalize x.extract n x.size = x3 at *
    have hsum1 : ∀ W, (Op.stringOp .add x1 c).run Try.prog W = .ok (.string (x1 ++ c)) W := fun W => run_string_add_sum W _ _ (by omega)
    have y1 : (x1 ++ c).size = n + 1 := by rw [ByteArray.size_append]; omega
    have hsum2 : ∀ W, (Op.stringOp .add (x1 ++ c) x2).run Try.prog W = .ok (.string (x1 ++ c ++ x2)) W := fun W => run_string_add_sum W _ _ (by omega)
    have y2 : (x1 ++ c ++ x2).size = x.size := by rw [ByteArray.size_append]; omega
    have hsum3 : ∀ W, (Op.stringOp .add x1 x2).run Try.prog W = .ok (.string (x1 ++ x2)) W := fun W => run_string_add_sum W _ _ (by omega)
    have y3 : (x1 ++ x2).size = x.size - 1 := by rw [ByteArray.size_append]; omega
    have hsum4 : ∀ W, (Op.stringOp .add (x1 ++ c) x3).run Try.prog W = .ok (.string (x1 ++ c ++ x3)) W := fun W => run_string_add_sum W _ _ (by omega)
    have y4 : (x1 ++ c ++ x3).size = x.size + 1 := by rw [ByteArray.size_append]; omega
    generalize x1 ++ x2 = o3 at *
    generalize x1 ++ c ++ x2 = o2 at *
    generalize x1 ++ c ++ x3 = o4 at *
    generalize x1 ++ c = o1 at *
    go_wp2_with fail
    refine CK.out.mono ?_
    rintro e W3 ⟨q, rfl, q0, q1, s3, g5⟩
    have g6 := grown_trans g4 g5
    have s4 := fun n => (s3.below ((Below.refl _ W3).drewN n))
    by_cases hq0 : q = 0
    · subst hq0
      go_wp2_with fail
      go_quiet (fail)
      go_wp2
      go_ret
      exact ⟨o2, rfl, by omega, s4 _, grown_drewN g6 _⟩
    · by_cases hq1 : q = 1
      · subst hq1
        go_wp2_with fail
        go_quiet (fail)
        go_wp2
        go_ret
        exact ⟨o3, rfl, by omega, s4 _, grown_drewN g6 _⟩
      · go_wp2_with fail
        go_quiet (fail)
        go_wp2
        go_ret
        exact ⟨o4, rfl, by omega, s4 _, grown_drewN g6 _⟩

set_option maxRecDepth 100000 in
set_option maxHeartbeats 1000000 in
theorem l01Bad_any (w0 W : World) (b : Nat) (x : ByteArray) (hS : Src w0 W b) (hB : Below w0.heap.size w0 W) (hx : x.size ≤ 900) :
    Calls Try.prog 122 #[.pointer (some ⟨b, 0, none⟩), .string x] W (DrawnT (x.size + 64) w0 W b) := by
  have HB0 := hS.ge
  have CN := Lib.hid (l01Next_i w0 W b 50 hS hB (by omega) (by omega))
  clear hS
  go_enter Try.func122, Try.ntmps122
  go_wp2_with fail
  refine CN.out.mono ?_
  rintro e W1 ⟨v, rfl, v0, v1, s1, g1⟩
  have hB1 := below_src hB HB0 g1
  by_cases h0 : v = 0
  · subst h0
    have hsum : ∀ W, (Op.stringOp .add x ⟨#[102]⟩).run Try.prog W = .ok (.string (x ++ ⟨#[102]⟩)) W := fun W => run_string_add_sum W _ _ (by show x.size + 1 ≤ _; omega)
    have y1 : (x ++ (⟨#[102]⟩ : ByteArray)).size = x.size + 1 := by rw [ByteArray.size_append]; rfl
    generalize x ++ (⟨#[102]⟩ : ByteArray) = o1 at *
    go_wp2_with fail
    go_ret
    exact ⟨o1, rfl, by omega, s1, g1⟩
  · by_cases h1 : v = 1
    · subst h1
      have CD := Lib.hid (l01Damage_any w0 W1 b x s1 hB1 (by omega))
      go_wp2_with fail
      refine CD.out.mono ?_
      rintro e W2 ⟨y, rfl, hy, s2, g2⟩
      go_wp2_with fail
      go_ret
      exact ⟨y, rfl, by omega, s2, grown_trans g1 g2⟩
    · by_cases h2 : v = 2
      · subst h2
        go_wp2_with fail
        go_loopg [1] 61 (fun g s1 wr => ∃ y : ByteArray, 61 ≤ g + y.size ∧ y.size ≤ x.size + 62 ∧ s1 = .string y ∧ wr = W1)
        case atStart => exact ⟨x, by omega, by omega, rfl, rfl⟩
        case round =>
          obtain ⟨y, hy1, hy2, rfl, rfl⟩ := hrel
          by_cases hp : y.size ≤ 60
          · obtain ⟨g, rfl⟩ : ∃ g, gk = g + 1 := ⟨gk - 1, by omega⟩
            have hsum : ∀ W, (Op.stringOp .add y ⟨#[97, 98]⟩).run Try.prog W = .ok (.string (y ++ ⟨#[97, 98]⟩)) W := fun W => run_string_add_sum W _ _ (by show y.size + 2 ≤ _; omega)
            have y1 : (y ++ (⟨#[97, 98]⟩ : ByteArray)).size = y.size + 2 := by rw [ByteArray.size_append]; rfl
            generalize y ++ (⟨#[97, 98]⟩ : ByteArray) = o1 at *
            go_wp2
            go_roundg g
            case measure => omega
            case rel => exact ⟨o1, by omega, by omega, rfl, by first | rfl | trivial⟩
          · go_wp2
            go_ret
            exact ⟨y, rfl, by omega, s1, g1⟩
      · go_wp2_with fail
        go_ret
        exact ⟨x, rfl, by omega, s1, g1⟩

end Go.Proofs.Ythjbdcoklgnnlab

/-! ### WordOf -/
namespace Go.Proofs.Ythjbdcoklgnnlab
set_option linter.unusedVariables false
set_option linter.unusedSimpArgs false
open Go.RowKit

set_option maxRecDepth 100000 in
theorem areLN_yes (B : Nat) (v : Value) (L : List Int) (w : World) (h : OwnI w B v L) (hl : L.length ≤ 1048576) (hok : okN L) :
    Calls Try.prog 94 #[v] w fun e w' => e = .returned (.bool true) ∧ Below w.heap.size w w' := by
  by_cases h0 : L = []
  · subst h0
    obtain ⟨a1, c1, rfl⟩ := h.empty
    clear h hok
    go_enter Try.func94, Try.ntmps94
    go_wp2
    refine wp_loop_rounds 1 ?_
    rw [rounds_succ]
    go_wp2
    go_ret
    exact ⟨rfl, Below.refl _ _⟩
  · have hn : 0 < L.length := List.length_pos_iff.2 h0
    obtain ⟨g, c, rfl, _, hg, hc, hm, cell, _⟩ := h.row hn
    have C := Lib.hid cell
    have OK := Lib.hid hok
    clear h cell h0 hok
    go_enter Try.func94, Try.ntmps94
    go_wp2
    go_loopw [7] (fun i wr => ∃ k : Nat, k ≤ L.length ∧ i = .int .i64 k ∧ wr = w) (fun i _ => L.length - (intOf i).toNat)
    case atStart => exact ⟨0, Nat.zero_le _, rfl, rfl⟩
    case round =>
      obtain ⟨k, hk, rfl, rfl⟩ := hrel
      by_cases hp : k < L.length
      · have k1 := C.out k hp
        have hok := OK.out k hp
        generalize L[k]'hp = z at k1 hok
        obtain ⟨o1, o2⟩ := hok
        have hpc : k < c := by omega
        go_wp2
        go_roundw
        case rel => exact ⟨k + 1, by omega, by go_num, by first | rfl | trivial⟩
        case measure => simp [intOf]; omega
      · go_wp2
        go_ret
        exact ⟨rfl, Below.refl _ _⟩

set_option maxRecDepth 100000 in
theorem areLN_no (B : Nat) (v : Value) (L : List Int) (w : World) (h : OwnI w B v L) (hl : L.length ≤ 1048576) (hok : ¬ okN L) :
    Calls Try.prog 94 #[v] w fun e w' => e = .returned (.bool false) ∧ Below w.heap.size w w' := by
  have h0 : L ≠ [] := fun e => by subst e; exact hok okN_nil
  have hn : 0 < L.length := List.length_pos_iff.2 h0
  obtain ⟨g, c, rfl, _, hg, hc, hm, cell, _⟩ := h.row hn
  have C := Lib.hid cell
  have OK := Lib.hid hok
  clear h cell h0 hok
  go_enter Try.func94, Try.ntmps94
  go_wp2
  go_loopw [7] (fun i wr => ∃ k : Nat, k ≤ L.length ∧ i = .int .i64 k ∧ wr = w ∧ okTo L k) (fun i _ => L.length - (intOf i).toNat)
  case atStart => exact ⟨0, Nat.zero_le _, rfl, rfl, okTo.zero L⟩
  case round =>
    obtain ⟨k, hk, rfl, rfl, hu⟩ := hrel
    have hp : k < L.length := Nat.lt_of_not_le fun hp => OK.out (hu.whole hp)
    have HU := Lib.hid hu
    clear hu
    have k1 := C.out k hp
    have hpc : k < c := by omega
    by_cases hlo : L[k]'hp < 0
    · generalize L[k]'hp = z at *
      go_wp2
      go_ret
      exact ⟨rfl, Below.refl _ _⟩
    · by_cases hhi : L[k]'hp ≤ 4
      · have HS := Lib.hid (HU.out.succ hp (by omega) hhi)
        have HC := Lib.hid k1
        clear k1
        generalize hz : L[k]'hp = z at *
        clear hz
        have k1 := HC.out
        go_wp2
        go_roundw
        case rel => exact ⟨k + 1, by omega, by go_num, by first | rfl | trivial, HS.out⟩
        case measure => simp [intOf]; omega
      · generalize L[k]'hp = z at *
        go_wp2
        go_ret
        exact ⟨rfl, Below.refl _ _⟩

set_option maxRecDepth 100000 in
theorem letterOf_any (n : Int) (w : World) (h0 : 0 ≤ n) (h4 : n ≤ 4) :
    Calls Try.prog 100 #[.int .i64 n] w fun e w' => e = .returned (.int .i32 (97 + n)) ∧ w = w' := by
  go_enter Try.func100, Try.ntmps100
  go_wp2
  go_ret
  exact ⟨rfl, rfl⟩

set_option maxRecDepth 100000 in
set_option maxHeartbeats 1000000 in
theorem wordOf_any (B : Nat) (v : Value) (L : List Int) (w : World) (h : OwnI w B v L) (hl : L.length ≤ 60) (hok : okN L) :
    Calls Try.prog 95 #[v] w fun e w' => e = .returned (.string (wordB L)) ∧ Below w.heap.size w w' := by
  have OK := Lib.hid hok
  have HO := Lib.hid h
  clear hok
  have hfb : Lib.IsBuilderF 132 5 w.heap.size w.heap.size (Lib.byteCells []) (w.alloc (.cells #[.pointer none, .slice none 0 0] 132)) := Lib.IsBuilderF.of (Lib.fresh_isBuilder 132 5 w)
  have HB := Lib.hid hfb
  clear hfb
  by_cases h0 : L = []
  · subst h0
    obtain ⟨a1, c1, rfl⟩ := h.empty
    clear h HO OK
    go_enter Try.func95, Try.ntmps95
    go_wp2
    refine wp_loop_rounds 1 ?_
    rw [rounds_succ]
    go_wp2_with (go_at_call 151; refine (Try.Builder_String_any_k w.heap.size w.heap.size [] _ HB.out (by simp)).mono ?_; rintro e w2 ⟨rfl, _, b2, _⟩)
    go_ret
    exact ⟨rfl, (Below.new _ _).trans b2⟩
  · have hn : 0 < L.length := List.length_pos_iff.2 h0
    obtain ⟨g, c, rfl, _, hg, hc, hm, cell, _⟩ := h.row hn
    have C := Lib.hid cell
    clear h cell h0
    go_enter Try.func95, Try.ntmps95
    go_wp2
    go_loopw [8] (fun i wr => ∃ k : Nat, k ≤ L.length ∧ i = .int .i64 k ∧ Lib.IsBuilderF 132 5 w.heap.size w.heap.size (Lib.byteCells (wordL (L.take k))) wr ∧ Below w.heap.size w wr) (fun i _ => L.length - (intOf i).toNat)
    case atStart => exact ⟨0, Nat.zero_le _, rfl, HB.out, Below.new _ _⟩
    case round =>
      obtain ⟨k, hk, rfl, hI, hB⟩ := hrel
      by_cases hp : k < L.length
      · have k1 : (wr.cell? ⟨g, k, none⟩) = some (.int .i64 (L[k]'hp)) := by rw [(bcell hB).1 g k hg]; exact C.out k hp
        have hokk := OK.out k hp
        have hrc := runeCells_letter hokk.1 hokk.2
        have hsn := wordL_snoc L k hp
        have hln := wordL_len L k (by omega)
        have HRC := Lib.hid hrc
        have HSN := Lib.hid hsn
        have HLN := Lib.hid hln
        have HI := Lib.hid hI
        have HK1 := Lib.hid k1
        clear hrc hsn hln hI k1
        have hz := hB.size
        generalize hzz : L[k]'hp = z at *
        clear hzz
        obtain ⟨o1, o2⟩ := hokk
        have hpc : k < c := by omega
        have k1 := HK1.out
        go_wp2_with fail
        refine (letterOf_any z _ o1 o2).mono ?_
        rintro e w2 ⟨rfl, rfl⟩
        go_wp2_with fail
        refine (Try.Builder_WriteRune_k w.heap.size w.heap.size _ (97 + z) (by omega) (by omega) wr HI.out (by rw [Lib.byteCells_length, HLN.out]; omega) hz).mono ?_
        rintro e w2 ⟨rfl, hI2, b2, _⟩
        rw [HRC.out, ← Lib.byteCells_append, HSN.out] at hI2
        have HI2 := Lib.hid hI2
        clear hI2
        go_wp2_with fail
        go_roundw
        case rel => exact ⟨k + 1, by omega, by go_num, .inr HI2.out, hB.trans b2⟩
        case measure => simp [intOf]; omega
      · have hke : L.length ≤ k := by omega
        have hz := hB.size
        rw [List.take_of_length_le hke] at hI
        have HI := Lib.hid hI
        clear hI
        go_wp2_with fail
        refine (Try.Builder_String_any_k w.heap.size w.heap.size (wordL L) _ HI.out hz).mono ?_
        rintro e w2 ⟨rfl, _, b2, _⟩
        go_wp2_with fail
        go_ret
        exact ⟨rfl, hB.trans b2⟩

end Go.Proofs.Ythjbdcoklgnnlab

/-! ### WordOfS -/
namespace Go.Proofs.Ythjbdcoklgnnlab
set_option linter.unusedVariables false
set_option linter.unusedSimpArgs false
open Go.RowKit

set_option maxRecDepth 100000 in
theorem l01In_yes' (n lo hi : Int) (w : World) (h1 : lo ≤ n) (h2 : n ≤ hi) :
    Calls Try.prog 90 #[.int .i64 n, .int .i64 lo, .int .i64 hi] w fun e w' => e = .returned (.bool true) ∧ w = w' := by
  go_enter Try.func90, Try.ntmps90
  go_wp2
  go_ret
  exact ⟨ret_bool (by simp [*]), rfl⟩

set_option maxRecDepth 100000 in
theorem l01In_no' (n lo hi : Int) (w : World) (h : ¬ (lo ≤ n ∧ n ≤ hi)) :
    Calls Try.prog 90 #[.int .i64 n, .int .i64 lo, .int .i64 hi] w fun e w' => e = .returned (.bool false) ∧ w = w' := by
  by_cases h1 : lo ≤ n
  · have h2 : hi < n := by omega
    clear h
    go_enter Try.func90, Try.ntmps90
    go_wp2
    go_ret
    exact ⟨ret_bool (by simp; omega), rfl⟩
  · have h2 : n < lo := by omega
    clear h h1
    go_enter Try.func90, Try.ntmps90
    go_wp2
    go_ret
    exact ⟨rfl, rfl⟩

set_option maxRecDepth 100000 in
theorem impl_WordOfLetters (B : Nat) (v : Value) (L : List Int) (w : World) (h : OwnI w B v L) (hl : L.length ≤ 1048576) :
    Calls Try.prog 22 #[v] w fun e w' => e = .returned (.tuple #[.string (wolR L).1, .int .i64 (wolR L).2]) ∧ Below w.heap.size w w' := by
  have hv : ∃ a c, v = .slice a L.length c := by
    rcases own_forms h with ⟨rfl, h0, _⟩ | ⟨g, cap, rfl, _⟩
    · exact ⟨none, 0, by rw [h0]⟩
    · exact ⟨_, _, rfl⟩
  obtain ⟨a, c, rfl⟩ := hv
  have H := Lib.hid h
  clear h
  by_cases h60 : 60 < L.length
  · rw [wolR_bad (.inl h60)]
    go_enter Try.func22, Try.ntmps22
    go_wp2
    go_ret2
    exact ⟨rfl, Below.refl _ _⟩
  · by_cases hok : okN L
    · rw [wolR_ok (by omega) hok]
      have HOK := Lib.hid hok
      clear hok
      go_enter Try.func22, Try.ntmps22
      go_wp2_with fail
      refine (areLN_yes _ _ L _ H.out hl HOK.out).mono ?_
      rintro e w2 ⟨rfl, b2⟩
      go_wp2_with fail
      refine (wordOf_any _ _ L _ (H.out.below b2) (by omega) HOK.out).mono ?_
      rintro e w3 ⟨rfl, b3⟩
      go_wp2_with fail
      go_ret2
      exact ⟨rfl, b2.then b3⟩
    · rw [wolR_bad (.inr hok)]
      have HOK := Lib.hid hok
      clear hok
      go_enter Try.func22, Try.ntmps22
      go_wp2_with fail
      refine (areLN_no _ _ L _ H.out hl HOK.out).mono ?_
      rintro e w2 ⟨rfl, b2⟩
      go_wp2_with fail
      go_ret2
      exact ⟨rfl, b2⟩

end Go.Proofs.Ythjbdcoklgnnlab

/-! ### NamedPlain -/
namespace Go.Proofs.Ythjbdcoklgnnlab
set_option linter.unusedVariables false
set_option linter.unusedSimpArgs false
open Go.RowKit

def bt (l : List UInt8) : ByteArray := ⟨l.toArray⟩
theorem bt_size (l : List UInt8) : (bt l).size = l.length := rfl
theorem bt_app (a b : List UInt8) : bt a ++ bt b = bt (a ++ b) := by
  apply ByteArray.ext
  rw [ByteArray.data_append]
  simp [bt]
theorem bt_take (l : List UInt8) (m : Nat) : (bt l).extract 0 m = bt (l.take m) := by
  apply ByteArray.ext
  rw [ByteArray.data_extract]
  simp [bt]
def imgs : Nat → List (List UInt8)
  | 0 => [[97, 98], [97]]
  | 1 => [[97, 98], [98, 97]]
  | 2 => [[97, 98], [97, 97]]
  | _ => [[97, 98, 99], [97, 99], [98]]
def img (I : List (List UInt8)) (c : UInt8) : List UInt8 := I.getD (c.toNat - 97) []
def implRun (I : List (List UInt8)) (m : Nat) : Nat → List UInt8 → Nat → List UInt8
  | 0, l, _ => l
  | f + 1, l, i => if l.length < m then implRun I m f (l ++ img I (l.getD i 0)) (i + 1) else l
def specRun (I : List (List UInt8)) (m : Nat) : Nat → List UInt8 → List UInt8
  | 0, l => l
  | f + 1, l => if l.length < m then specRun I m f (l.flatMap (img I)) else l
def namedI (d m : Nat) : List UInt8 := implRun (imgs d) m 60 ((imgs d).getD 0 []) 1
def namedS (d m : Nat) : List UInt8 := specRun (imgs d) m 60 [97]
theorem named_eq : ∀ d, d < 4 → ∀ m, m < 61 → (namedI d m).take m = (namedS d m).take m := by decide +kernel
theorem implRun_step {I : List (List UInt8)} {m f i : Nat} {l : List UInt8} (h : l.length < m) : implRun I m (f + 1) l i = implRun I m f (l ++ img I (l.getD i 0)) (i + 1) := by rw [implRun, if_pos h]
theorem implRun_end {I : List (List UInt8)} {m f i : Nat} {l : List UInt8} (h : ¬ l.length < m) : implRun I m f l i = l := by
  cases f with
  | zero => rfl
  | succ f => rw [implRun, if_neg h]
theorem specRun_step {I : List (List UInt8)} {m f : Nat} {l : List UInt8} (h : l.length < m) : specRun I m (f + 1) l = specRun I m f (l.flatMap (img I)) := by rw [specRun, if_pos h]
theorem specRun_end {I : List (List UInt8)} {m f : Nat} {l : List UInt8} (h : ¬ l.length < m) : specRun I m f l = l := by
  cases f with
  | zero => rfl
  | succ f => rw [specRun, if_neg h]
/-- All letters have images. -/
def lets (I : List (List UInt8)) (l : List UInt8) : Prop := ∀ c ∈ l, 97 ≤ c.toNat ∧ c.toNat - 97 < I.length
instance (I : List (List UInt8)) (l : List UInt8) : Decidable (lets I l) := by unfold lets; exact inferInstance
def goodI (I : List (List UInt8)) : Prop := (∀ s ∈ I, 1 ≤ s.length ∧ s.length ≤ 3 ∧ lets I s) ∧ 2 ≤ I.length ∧ I.length ≤ 3 ∧ 2 ≤ (I.getD 0 []).length ∧ (I.getD 0 []).getD 0 0 = 97
instance (I : List (List UInt8)) : Decidable (goodI I) := by unfold goodI; exact inferInstance
theorem imgs_good : ∀ d, d < 4 → goodI (imgs d) := by decide +kernel
theorem img_mem {I : List (List UInt8)} {c : UInt8} (h : c.toNat - 97 < I.length) : img I c ∈ I := by
  unfold img
  rw [List.getD_eq_getElem?_getD, List.getElem?_eq_getElem h]
  exact List.getElem_mem h
theorem lets_app {I : List (List UInt8)} {a b : List UInt8} (ha : lets I a) (hb : lets I b) : lets I (a ++ b) := by
  intro c hc
  rcases List.mem_append.1 hc with h | h
  · exact ha c h
  · exact hb c h
theorem lets_flat {I : List (List UInt8)} (g : goodI I) {l : List UInt8} (h : lets I l) : lets I (l.flatMap (img I)) := by
  intro c hc
  rw [List.mem_flatMap] at hc
  obtain ⟨x, hx, hc⟩ := hc
  exact (g.1 _ (img_mem (h x hx).2)).2.2 c hc
theorem flat_len {I : List (List UInt8)} (g : goodI I) : ∀ {l : List UInt8}, lets I l → l.length ≤ (l.flatMap (img I)).length ∧ (l.flatMap (img I)).length ≤ 3 * l.length
  | [], _ => by simp
  | c :: l, h => by
    have h1 := flat_len g (l := l) (fun x hx => h x (List.mem_cons_of_mem _ hx))
    have h2 := g.1 _ (img_mem (h c (List.mem_cons_self ..)).2)
    rw [List.flatMap_cons, List.length_append, List.length_cons]
    omega
theorem flat_grows {I : List (List UInt8)} (g : goodI I) {l : List UInt8} (h : lets I l) (h0 : l.getD 0 0 = 97) (hl : 0 < l.length) : l.length < (l.flatMap (img I)).length ∧ (l.flatMap (img I)).getD 0 0 = 97 := by
  cases l with
  | nil => simp at hl
  | cons c l =>
    have hc : c = 97 := by simpa using h0
    subst hc
    have h1 := flat_len g (l := l) (fun x hx => h x (List.mem_cons_of_mem _ hx))
    have h2 : img I 97 = I.getD 0 [] := rfl
    have h3 := g.2.2.2.1
    have h4 := g.2.2.2.2
    rw [List.flatMap_cons, List.length_append, List.length_cons, h2]
    refine ⟨by omega, ?_⟩
    rw [List.getD_eq_getElem?_getD, List.getElem?_append_left (by omega), ← List.getD_eq_getElem?_getD]
    exact h4
theorem flat_take {I : List (List UInt8)} (l : List UInt8) (i : Nat) (h : i < l.length) : (l.take (i + 1)).flatMap (img I) = (l.take i).flatMap (img I) ++ img I (l[i]'h) := by
  rw [List.take_succ_eq_append_getElem h, List.flatMap_append]
  simp
def idOf (s : ByteArray) : Option Nat := if s.toList = [102, 105, 98, 111, 110, 97, 99, 99, 105] then some 0 else if s.toList = [116, 104, 117, 101] then some 1 else if s.toList = [100, 111, 117, 98, 108, 105, 110, 103] then some 2 else if s.toList = [116, 114, 105, 112, 108, 101] then some 3 else none
def namedR (s : ByteArray) (m : Int) : ByteArray × Int := if m < 0 ∨ 60 < m then (tE, 2) else match idOf s with
  | none => (tE, 4)
  | some d => (bt ((namedS d m.toNat).take m.toNat), 0)
theorem namedR_out {s : ByteArray} {m : Int} (h : m < 0 ∨ 60 < m) : namedR s m = (⟨#[]⟩, 2) := if_pos h
theorem namedR_none {s : ByteArray} {m : Int} (h : ¬ (m < 0 ∨ 60 < m)) (h2 : idOf s = none) : namedR s m = (⟨#[]⟩, 4) := by unfold namedR; rw [if_neg h, h2]; rfl
theorem namedR_some {s : ByteArray} {m : Nat} {d : Nat} (h : m ≤ 60) (h2 : idOf s = some d) : namedR s (m : Int) = (bt ((namedS d m).take m), 0) := by unfold namedR; rw [if_neg (by omega), h2]; rfl
/-- The five ways in which a name is looked up, as the comparisons come out. -/
def way (s : ByteArray) (d : Nat) : Prop := (s.toList == [102, 105, 98, 111, 110, 97, 99, 99, 105]) = decide (d = 0) ∧ (1 ≤ d → (s.toList == [116, 104, 117, 101]) = decide (d = 1)) ∧ (2 ≤ d → (s.toList == [100, 111, 117, 98, 108, 105, 110, 103]) = decide (d = 2)) ∧ (3 ≤ d → (s.toList == [116, 114, 105, 112, 108, 101]) = decide (d = 3))
theorem way_of (s : ByteArray) : (idOf s = none ∧ way s 4) ∨ ∃ d, d < 4 ∧ idOf s = some d ∧ way s d := by
  unfold idOf way
  by_cases h0 : s.toList = [102, 105, 98, 111, 110, 97, 99, 99, 105]
  · exact .inr ⟨0, by omega, by rw [if_pos h0], by simp [h0], fun h => by omega, fun h => by omega, fun h => by omega⟩
  · by_cases h1 : s.toList = [116, 104, 117, 101]
    · exact .inr ⟨1, by omega, by rw [if_neg h0, if_pos h1], by simp [h0], fun _ => by simp [h1], fun h => by omega, fun h => by omega⟩
    · by_cases h2 : s.toList = [100, 111, 117, 98, 108, 105, 110, 103]
      · exact .inr ⟨2, by omega, by rw [if_neg h0, if_neg h1, if_pos h2], by simp [h0], fun _ => by simp [h1], fun _ => by simp [h2], fun h => by omega⟩
      · by_cases h3 : s.toList = [116, 114, 105, 112, 108, 101]
        · exact .inr ⟨3, by omega, by rw [if_neg h0, if_neg h1, if_neg h2, if_pos h3], by simp [h0], fun _ => by simp [h1], fun _ => by simp [h2], fun _ => by simp [h3]⟩
        · exact .inl ⟨by rw [if_neg h0, if_neg h1, if_neg h2, if_neg h3], by simp [h0], fun _ => by simp [h1], fun _ => by simp [h2], fun _ => by simp [h3]⟩

end Go.Proofs.Ythjbdcoklgnnlab

/-! ### Named -/
namespace Go.Proofs.Ythjbdcoklgnnlab
set_option linter.unusedVariables false
set_option linter.unusedSimpArgs false
open Go.RowKit

def szOf : Value → Nat
  | .string t => t.size
  | _ => 0
theorem OwnS.rowS {w : World} {B : Nat} {v : Value} {I : List (List UInt8)} (h : OwnS w B v (I.map bt)) (hn : 0 < I.length) :
    ∃ g cap, v = .slice (some ⟨g, 0, none⟩) I.length cap ∧ g < w.heap.size ∧ I.length ≤ cap ∧ (∀ j (hj : j < I.length), w.cell? ⟨g, j, none⟩ = some (.string (bt (I[j]'hj)))) := by
  obtain ⟨g, cap, hv, _, hg, hc, _, cell, _⟩ := OwnS.row h (by simpa using hn)
  rw [List.length_map] at hv hc
  refine ⟨g, cap, hv, hg, hc, fun j hj => ?_⟩
  rw [cell j (by simpa using hj), List.getElem_map]


set_option maxRecDepth 100000 in
set_option maxHeartbeats 2000000 in
theorem images_some (s : ByteArray) (d : Nat) (w : World) (hd : d < 4) (hw : way s d) :
    Calls Try.prog 134 #[.string s] w fun e w' => ∃ v, e = .returned v ∧ OwnS w' w.heap.size v ((imgs d).map bt) ∧ Below w.heap.size w w' := by
  rcases (show d = 0 ∨ d = 1 ∨ d = 2 ∨ d = 3 by omega) with rfl | rfl | rfl | rfl
  · obtain ⟨t0, t1, t2, t3⟩ := hw
    clear t1 t2 t3
    simp at t0
    go_enter Try.func134, Try.ntmps134
    go_wp2
    go_ret
    exact ⟨_, rfl, World.ownsRow_lit w #[.string ⟨#[97, 98]⟩, .string ⟨#[97]⟩] 2 (Nat.le_refl _) (by decide) (by simp), Below.new _ _⟩
  · obtain ⟨t0, t1, t2, t3⟩ := hw
    have t1 := t1 (by omega)
    clear t2 t3
    simp at t0 t1
    go_enter Try.func134, Try.ntmps134
    go_wp2
    go_ret
    exact ⟨_, rfl, World.ownsRow_lit w #[.string ⟨#[97, 98]⟩, .string ⟨#[98, 97]⟩] 2 (Nat.le_refl _) (by decide) (by simp), Below.new _ _⟩
  · obtain ⟨t0, t1, t2, t3⟩ := hw
    have t1 := t1 (by omega)
    have t2 := t2 (by omega)
    clear t3
    simp at t0 t1 t2
    go_enter Try.func134, Try.ntmps134
    go_wp2
    go_ret
    exact ⟨_, rfl, World.ownsRow_lit w #[.string ⟨#[97, 98]⟩, .string ⟨#[97, 97]⟩] 2 (Nat.le_refl _) (by decide) (by simp), Below.new _ _⟩
  · obtain ⟨t0, t1, t2, t3⟩ := hw
    have t1 := t1 (by omega)
    have t2 := t2 (by omega)
    have t3 := t3 (by omega)
    clear hd
    simp at t0 t1 t2 t3
    go_enter Try.func134, Try.ntmps134
    go_wp2
    go_ret
    exact ⟨_, rfl, World.ownsRow_lit w #[.string ⟨#[97, 98, 99]⟩, .string ⟨#[97, 99]⟩, .string ⟨#[98]⟩] 3 (Nat.le_refl _) (by decide) (by simp), Below.new _ _⟩

set_option maxRecDepth 100000 in
theorem images_none (s : ByteArray) (w : World) (hw : way s 4) :
    Calls Try.prog 134 #[.string s] w fun e w' => e = .returned (.slice none 0 0) ∧ Below w.heap.size w w' := by
  obtain ⟨t0, t1, t2, t3⟩ := hw
  have t1 := t1 (by omega)
  have t2 := t2 (by omega)
  have t3 := t3 (by omega)
  rw [show decide (4 = 0) = false from rfl] at t0
  rw [show decide (4 = 1) = false from rfl] at t1
  rw [show decide (4 = 2) = false from rfl] at t2
  rw [show decide (4 = 3) = false from rfl] at t3
  go_enter Try.func134, Try.ntmps134
  go_wp2
  go_ret
  exact ⟨rfl, Below.refl _ _⟩

end Go.Proofs.Ythjbdcoklgnnlab

/-! ### NamedS -/
namespace Go.Proofs.Ythjbdcoklgnnlab
set_option linter.unusedVariables false
set_option linter.unusedSimpArgs false
open Go.RowKit

set_option maxRecDepth 100000 in
set_option maxHeartbeats 4000000 in
theorem l01Named_none (s : ByteArray) (m : Int) (w : World) (hw : way s 4) :
    Calls Try.prog 135 #[.string s, .int .i64 m] w fun e w' => e = .returned (.tuple #[.string ⟨#[]⟩, .bool false]) ∧ Below w.heap.size w w' := by
  obtain ⟨t0, t1, t2, t3⟩ := hw
  have t1 := t1 (by omega)
  have t2 := t2 (by omega)
  have t3 := t3 (by omega)
  rw [show decide (4 = 0) = false from rfl] at t0
  rw [show decide (4 = 1) = false from rfl] at t1
  rw [show decide (4 = 2) = false from rfl] at t2
  rw [show decide (4 = 3) = false from rfl] at t3
  go_enter Try.func135, Try.ntmps135
  go_wp2
  go_ret2
  exact ⟨rfl, Below.new _ _⟩

set_option maxRecDepth 100000 in
set_option maxHeartbeats 8000000 in
theorem l01Named_some (s : ByteArray) (m d : Nat) (w : World) (hd : d < 4) (hm : m ≤ 60) (hw : way s d) :
    Calls Try.prog 135 #[.string s, .int .i64 (m : Int)] w fun e w' => e = .returned (.tuple #[.string (bt ((namedS d m).take m)), .bool true]) ∧ Below w.heap.size w w' := by
  rcases (show d = 0 ∨ d = 1 ∨ d = 2 ∨ d = 3 by omega) with rfl | rfl | rfl | rfl
  · obtain ⟨t0, t1, t2, t3⟩ := hw
    clear t1 t2 t3
    simp at t0
    go_enter Try.func135, Try.ntmps135
    go_wp2_with fail
    obtain ⟨W1, hW1⟩ : ∃ W1 : World, W1 = (w.alloc (.cells #[] 9)).alloc (.cells #[.string ⟨#[97, 98]⟩, .string ⟨#[97]⟩] 9) := ⟨_, rfl⟩
    have o1 : OwnS W1 (w.heap.size + 1) (.slice (some ⟨w.heap.size + 1, 0, none⟩) 2 2) ((imgs 0).map bt) := by
      have h := World.ownsRow_lit (base := w.heap.size + 1) (size := 1) (w.alloc (.cells #[] 9)) #[.string ⟨#[97, 98]⟩, .string ⟨#[97]⟩] 2 (e := 9) (by simp) (by decide) rfl
      rw [show (w.alloc (.cells #[] 9)).heap.size = w.heap.size + 1 by simp] at h
      rw [hW1]
      exact h
    have B1 : Below w.heap.size w W1 := by rw [hW1]; exact (Below.new _ _).alloc (by simp) _
    have hsz1 : W1.heap.size = w.heap.size + 2 := by rw [hW1]; simp
    rw [← hW1]
    have HZ1 := Lib.hid hsz1
    have HG := Lib.hid (imgs_good 0 (by omega))
    have HI : Hid (specRun (imgs 0) m 60 [97] = namedS 0 m) := Lib.hid rfl
    have hIn : (imgs 0).length = 2 := rfl
    obtain ⟨g, cap, hv, hg, _, cell⟩ := o1.rowS (by rw [hIn]; omega)
    have hgv : g = w.heap.size + 1 := by injection hv with h1; injection h1 with h1; injection h1 with h1; exact h1.symm
    subst hgv
    have C := Lib.hid cell
    clear hW1 o1 cell hv hsz1 hg
    generalize hIm : imgs 0 = I at *
    have hIle : I.length ≤ 2 := by omega
    clear hIm hIn
    have hbz1 := B1.size
    have hgl : w.heap.size + 1 < W1.heap.size := by have := HZ1.out; omega
    go_wp2_with fail
    go_loopw [7] (fun o wr => ∃ (f : Nat) (l : List UInt8) (t : ByteArray), o = .string t ∧ Hid (t = bt l) ∧ Hid (t.size = l.length) ∧ t.size ≤ 180 ∧ 1 ≤ l.length ∧ m ≤ l.length + f ∧ Hid (lets I l) ∧ Hid (l.getD 0 0 = 97) ∧ Below W1.heap.size W1 wr ∧ Hid (specRun I m f l = namedS 0 m)) (fun o _ => m - szOf o)
    case atStart => exact ⟨60, [97], bt [97], rfl, Lib.hid rfl, Lib.hid rfl, by show 1 ≤ 180; omega, by show 1 ≤ 1; omega, by show m ≤ 1 + 60; omega, Lib.hid (fun c hc => by simp at hc; subst hc; have := HG.out.2.1; exact ⟨by decide, by show 97 - 97 < _; omega⟩), Lib.hid rfl, Below.refl _ _, HI⟩
    case round =>
      obtain ⟨f, l, t, rfl, HT, HS, ht180, hl1, hf, HL, H97, hB, HR⟩ := hrel
      obtain ⟨wo, rfl⟩ : ∃ wo : World, wo = wr := ⟨_, rfl⟩
      have hts := HS.out
      by_cases hlt : l.length < m
      · obtain ⟨f, rfl⟩ : ∃ k, f = k + 1 := ⟨f - 1, by omega⟩
        have hltm : (t.size : Int) < (m : Int) := by omega
        have hstep := specRun_step (I := I) (f := f) hlt
        have HST := Lib.hid hstep
        have hgr := flat_grows HG.out HL.out H97.out (by omega)
        have HGR := Lib.hid hgr
        have HLF := Lib.hid (lets_flat HG.out HL.out)
        have hfl := (flat_len HG.out HL.out).2
        have ht60 : t.size ≤ 60 := by omega
        clear hstep hgr
        go_wp2_with fail
        go_loopw [8, 9] (fun u q wr => ∃ (i : Nat) (r : ByteArray), q = .int .i64 i ∧ u = .string r ∧ Hid (r = bt ((l.take i).flatMap (img I))) ∧ r.size ≤ 3 * i ∧ i ≤ l.length ∧ Below W1.heap.size W1 wr) (fun _ q _ => l.length - (intOf q).toNat)
        case atStart => exact ⟨0, ⟨#[]⟩, rfl, rfl, Lib.hid rfl, by show 0 ≤ _; omega, Nat.zero_le _, hB⟩
        case round =>
          clear hB
          obtain ⟨i, r, rfl, rfl, HRR, hr3, hil, hB⟩ := hrel
          by_cases hi : i < l.length
          · have hit : i < t.size := by omega
            have hti : t[i]'hit = l[i]'hi := by
              have h2 : i < (bt l).size := hi
              have h3 : (bt l)[i]'h2 = l[i]'hi := rfl
              have h4 : t[i]'hit = (bt l)[i]'h2 := by
                have := HT.out
                subst this
                rfl
              rw [h4, h3]
            have hle := HL.out (l[i]'hi) (List.getElem_mem _)
            have hmem := img_mem hle.2
            have hgi := HG.out.1 _ hmem
            have hft := flat_take (I := I) l i hi
            have hcell := C.out _ hle.2
            rw [show I[(l[i]'hi).toNat - 97]'hle.2 = img I (l[i]'hi) by unfold img; rw [List.getD_eq_getElem?_getD, List.getElem?_eq_getElem hle.2]; rfl] at hcell
            rw [← hti] at hle hgi hcell hft
            generalize hrg : img I (t[i]'hit) = rr at *
            obtain ⟨a1, a2⟩ := hle
            obtain ⟨r1, r3, hrl⟩ := hgi
            obtain ⟨n, hn⟩ : ∃ n : Nat, ((t[i]'hit).toNat : Int) = (n : Int) + 97 := ⟨(t[i]'hit).toNat - 97, by omega⟩
            have hnn : (t[i]'hit).toNat - 97 = n := by omega
            rw [hnn] at hcell a2
            have E1 : Hid (((t[i]'hit).toNat : Int) - 97 = n) := Lib.hid (by omega)
            have hn2 : n < 2 := by omega
            have happ : r ++ bt rr = bt ((l.take (i + 1)).flatMap (img I)) := by rw [HRR.out, bt_app, hft]
            have hrs : (bt rr).size = rr.length := rfl
            have HAP := Lib.hid happ
            generalize hbr : bt rr = tr at *
            have htr : tr.size ≤ 3 := by omega
            have hasz : (r ++ tr).size = r.size + tr.size := ByteArray.size_append
            have HAS := Lib.hid hasz
            have HC := Lib.hid hcell
            clear hti hmem hft hrg hrl hnn happ hrs hbr hasz hn hcell
            go_wp2_with fail
            refine (l01At_any t i _ hit ht60).mono ?_
            rintro e w2 ⟨rfl, b2⟩
            rw [E1.out]
            have hB2 := hB.then b2
            have kc : w2.cell? ⟨w.heap.size + 1, n, none⟩ = some (.string tr) := by rw [(bcell hB2).1 _ n hgl]; exact HC.out
            go_wp2_with fail
            go_roundw
            case rel => exact ⟨i + 1, r ++ tr, by go_num, rfl, HAP, by have := HAS.out; omega, by omega, hB2⟩
            case measure => simp [intOf]; omega
          · have hE : i = l.length := by omega
            have HN : Hid (r = bt (l.flatMap (img I))) := Lib.hid (by rw [HRR.out, hE, List.take_of_length_le (Nat.le_refl _)])
            have hrz : r.size = (l.flatMap (img I)).length := by rw [HN.out]; rfl
            have HRZ := Lib.hid hrz
            clear hE hrz
            go_wp2_with fail
            go_roundw
            case rel =>
              have q1 := HRZ.out
              have q2 := HGR.out.1
              exact ⟨f, l.flatMap (img I), r, rfl, HN, HRZ, by omega, by omega, by omega, HLF, Lib.hid HGR.out.2, hB, Lib.hid (by rw [← HR.out, HST.out])⟩
            case measure =>
              have q1 := HRZ.out
              have q2 := HGR.out.1
              show m - r.size < m - t.size
              omega
      · have hR := HR.out
        rw [specRun_end hlt] at hR
        have hx : t.extract 0 m = bt ((namedS 0 m).take m) := by rw [HT.out, bt_take, hR]
        have HX := Lib.hid hx
        have hge : m ≤ t.size := by omega
        clear hR hx hlt
        go_wp2_with fail
        go_ret2
        exact ⟨by rw [← HX.out]; rfl, B1.then hB⟩
  · obtain ⟨t0, t1, t2, t3⟩ := hw
    have t1 := t1 (by omega)
    clear t2 t3
    simp at t0 t1
    go_enter Try.func135, Try.ntmps135
    go_wp2_with fail
    obtain ⟨W1, hW1⟩ : ∃ W1 : World, W1 = (w.alloc (.cells #[] 9)).alloc (.cells #[.string ⟨#[97, 98]⟩, .string ⟨#[98, 97]⟩] 9) := ⟨_, rfl⟩
    have o1 : OwnS W1 (w.heap.size + 1) (.slice (some ⟨w.heap.size + 1, 0, none⟩) 2 2) ((imgs 1).map bt) := by
      have h := World.ownsRow_lit (base := w.heap.size + 1) (size := 1) (w.alloc (.cells #[] 9)) #[.string ⟨#[97, 98]⟩, .string ⟨#[98, 97]⟩] 2 (e := 9) (by simp) (by decide) rfl
      rw [show (w.alloc (.cells #[] 9)).heap.size = w.heap.size + 1 by simp] at h
      rw [hW1]
      exact h
    have B1 : Below w.heap.size w W1 := by rw [hW1]; exact (Below.new _ _).alloc (by simp) _
    have hsz1 : W1.heap.size = w.heap.size + 2 := by rw [hW1]; simp
    rw [← hW1]
    have HZ1 := Lib.hid hsz1
    have HG := Lib.hid (imgs_good 1 (by omega))
    have HI : Hid (specRun (imgs 1) m 60 [97] = namedS 1 m) := Lib.hid rfl
    have hIn : (imgs 1).length = 2 := rfl
    obtain ⟨g, cap, hv, hg, _, cell⟩ := o1.rowS (by rw [hIn]; omega)
    have hgv : g = w.heap.size + 1 := by injection hv with h1; injection h1 with h1; injection h1 with h1; exact h1.symm
    subst hgv
    have C := Lib.hid cell
    clear hW1 o1 cell hv hsz1 hg
    generalize hIm : imgs 1 = I at *
    have hIle : I.length ≤ 2 := by omega
    clear hIm hIn
    have hbz1 := B1.size
    have hgl : w.heap.size + 1 < W1.heap.size := by have := HZ1.out; omega
    go_wp2_with fail
    go_loopw [7] (fun o wr => ∃ (f : Nat) (l : List UInt8) (t : ByteArray), o = .string t ∧ Hid (t = bt l) ∧ Hid (t.size = l.length) ∧ t.size ≤ 180 ∧ 1 ≤ l.length ∧ m ≤ l.length + f ∧ Hid (lets I l) ∧ Hid (l.getD 0 0 = 97) ∧ Below W1.heap.size W1 wr ∧ Hid (specRun I m f l = namedS 1 m)) (fun o _ => m - szOf o)
    case atStart => exact ⟨60, [97], bt [97], rfl, Lib.hid rfl, Lib.hid rfl, by show 1 ≤ 180; omega, by show 1 ≤ 1; omega, by show m ≤ 1 + 60; omega, Lib.hid (fun c hc => by simp at hc; subst hc; have := HG.out.2.1; exact ⟨by decide, by show 97 - 97 < _; omega⟩), Lib.hid rfl, Below.refl _ _, HI⟩
    case round =>
      obtain ⟨f, l, t, rfl, HT, HS, ht180, hl1, hf, HL, H97, hB, HR⟩ := hrel
      obtain ⟨wo, rfl⟩ : ∃ wo : World, wo = wr := ⟨_, rfl⟩
      have hts := HS.out
      by_cases hlt : l.length < m
      · obtain ⟨f, rfl⟩ : ∃ k, f = k + 1 := ⟨f - 1, by omega⟩
        have hltm : (t.size : Int) < (m : Int) := by omega
        have hstep := specRun_step (I := I) (f := f) hlt
        have HST := Lib.hid hstep
        have hgr := flat_grows HG.out HL.out H97.out (by omega)
        have HGR := Lib.hid hgr
        have HLF := Lib.hid (lets_flat HG.out HL.out)
        have hfl := (flat_len HG.out HL.out).2
        have ht60 : t.size ≤ 60 := by omega
        clear hstep hgr
        go_wp2_with fail
        go_loopw [8, 9] (fun u q wr => ∃ (i : Nat) (r : ByteArray), q = .int .i64 i ∧ u = .string r ∧ Hid (r = bt ((l.take i).flatMap (img I))) ∧ r.size ≤ 3 * i ∧ i ≤ l.length ∧ Below W1.heap.size W1 wr) (fun _ q _ => l.length - (intOf q).toNat)
        case atStart => exact ⟨0, ⟨#[]⟩, rfl, rfl, Lib.hid rfl, by show 0 ≤ _; omega, Nat.zero_le _, hB⟩
        case round =>
          clear hB
          obtain ⟨i, r, rfl, rfl, HRR, hr3, hil, hB⟩ := hrel
          by_cases hi : i < l.length
          · have hit : i < t.size := by omega
            have hti : t[i]'hit = l[i]'hi := by
              have h2 : i < (bt l).size := hi
              have h3 : (bt l)[i]'h2 = l[i]'hi := rfl
              have h4 : t[i]'hit = (bt l)[i]'h2 := by
                have := HT.out
                subst this
                rfl
              rw [h4, h3]
            have hle := HL.out (l[i]'hi) (List.getElem_mem _)
            have hmem := img_mem hle.2
            have hgi := HG.out.1 _ hmem
            have hft := flat_take (I := I) l i hi
            have hcell := C.out _ hle.2
            rw [show I[(l[i]'hi).toNat - 97]'hle.2 = img I (l[i]'hi) by unfold img; rw [List.getD_eq_getElem?_getD, List.getElem?_eq_getElem hle.2]; rfl] at hcell
            rw [← hti] at hle hgi hcell hft
            generalize hrg : img I (t[i]'hit) = rr at *
            obtain ⟨a1, a2⟩ := hle
            obtain ⟨r1, r3, hrl⟩ := hgi
            obtain ⟨n, hn⟩ : ∃ n : Nat, ((t[i]'hit).toNat : Int) = (n : Int) + 97 := ⟨(t[i]'hit).toNat - 97, by omega⟩
            have hnn : (t[i]'hit).toNat - 97 = n := by omega
            rw [hnn] at hcell a2
            have E1 : Hid (((t[i]'hit).toNat : Int) - 97 = n) := Lib.hid (by omega)
            have hn2 : n < 2 := by omega
            have happ : r ++ bt rr = bt ((l.take (i + 1)).flatMap (img I)) := by rw [HRR.out, bt_app, hft]
            have hrs : (bt rr).size = rr.length := rfl
            have HAP := Lib.hid happ
            generalize hbr : bt rr = tr at *
            have htr : tr.size ≤ 3 := by omega
            have hasz : (r ++ tr).size = r.size + tr.size := ByteArray.size_append
            have HAS := Lib.hid hasz
            have HC := Lib.hid hcell
            clear hti hmem hft hrg hrl hnn happ hrs hbr hasz hn hcell
            go_wp2_with fail
            refine (l01At_any t i _ hit ht60).mono ?_
            rintro e w2 ⟨rfl, b2⟩
            rw [E1.out]
            have hB2 := hB.then b2
            have kc : w2.cell? ⟨w.heap.size + 1, n, none⟩ = some (.string tr) := by rw [(bcell hB2).1 _ n hgl]; exact HC.out
            go_wp2_with fail
            go_roundw
            case rel => exact ⟨i + 1, r ++ tr, by go_num, rfl, HAP, by have := HAS.out; omega, by omega, hB2⟩
            case measure => simp [intOf]; omega
          · have hE : i = l.length := by omega
            have HN : Hid (r = bt (l.flatMap (img I))) := Lib.hid (by rw [HRR.out, hE, List.take_of_length_le (Nat.le_refl _)])
            have hrz : r.size = (l.flatMap (img I)).length := by rw [HN.out]; rfl
            have HRZ := Lib.hid hrz
            clear hE hrz
            go_wp2_with fail
            go_roundw
            case rel =>
              have q1 := HRZ.out
              have q2 := HGR.out.1
              exact ⟨f, l.flatMap (img I), r, rfl, HN, HRZ, by omega, by omega, by omega, HLF, Lib.hid HGR.out.2, hB, Lib.hid (by rw [← HR.out, HST.out])⟩
            case measure =>
              have q1 := HRZ.out
              have q2 := HGR.out.1
              show m - r.size < m - t.size
              omega
      · have hR := HR.out
        rw [specRun_end hlt] at hR
        have hx : t.extract 0 m = bt ((namedS 1 m).take m) := by rw [HT.out, bt_take, hR]
        have HX := Lib.hid hx
        have hge : m ≤ t.size := by omega
        clear hR hx hlt
        go_wp2_with fail
        go_ret2
        exact ⟨by rw [← HX.out]; rfl, B1.then hB⟩
  · obtain ⟨t0, t1, t2, t3⟩ := hw
    have t1 := t1 (by omega)
    have t2 := t2 (by omega)
    clear t3
    simp at t0 t1 t2
    go_enter Try.func135, Try.ntmps135
    go_wp2_with fail
    obtain ⟨W1, hW1⟩ : ∃ W1 : World, W1 = (w.alloc (.cells #[] 9)).alloc (.cells #[.string ⟨#[97, 98]⟩, .string ⟨#[97, 97]⟩] 9) := ⟨_, rfl⟩
    have o1 : OwnS W1 (w.heap.size + 1) (.slice (some ⟨w.heap.size + 1, 0, none⟩) 2 2) ((imgs 2).map bt) := by
      have h := World.ownsRow_lit (base := w.heap.size + 1) (size := 1) (w.alloc (.cells #[] 9)) #[.string ⟨#[97, 98]⟩, .string ⟨#[97, 97]⟩] 2 (e := 9) (by simp) (by decide) rfl
      rw [show (w.alloc (.cells #[] 9)).heap.size = w.heap.size + 1 by simp] at h
      rw [hW1]
      exact h
    have B1 : Below w.heap.size w W1 := by rw [hW1]; exact (Below.new _ _).alloc (by simp) _
    have hsz1 : W1.heap.size = w.heap.size + 2 := by rw [hW1]; simp
    rw [← hW1]
    have HZ1 := Lib.hid hsz1
    have HG := Lib.hid (imgs_good 2 (by omega))
    have HI : Hid (specRun (imgs 2) m 60 [97] = namedS 2 m) := Lib.hid rfl
    have hIn : (imgs 2).length = 2 := rfl
    obtain ⟨g, cap, hv, hg, _, cell⟩ := o1.rowS (by rw [hIn]; omega)
    have hgv : g = w.heap.size + 1 := by injection hv with h1; injection h1 with h1; injection h1 with h1; exact h1.symm
    subst hgv
    have C := Lib.hid cell
    clear hW1 o1 cell hv hsz1 hg
    generalize hIm : imgs 2 = I at *
    have hIle : I.length ≤ 2 := by omega
    clear hIm hIn
    have hbz1 := B1.size
    have hgl : w.heap.size + 1 < W1.heap.size := by have := HZ1.out; omega
    go_wp2_with fail
    go_loopw [7] (fun o wr => ∃ (f : Nat) (l : List UInt8) (t : ByteArray), o = .string t ∧ Hid (t = bt l) ∧ Hid (t.size = l.length) ∧ t.size ≤ 180 ∧ 1 ≤ l.length ∧ m ≤ l.length + f ∧ Hid (lets I l) ∧ Hid (l.getD 0 0 = 97) ∧ Below W1.heap.size W1 wr ∧ Hid (specRun I m f l = namedS 2 m)) (fun o _ => m - szOf o)
    case atStart => exact ⟨60, [97], bt [97], rfl, Lib.hid rfl, Lib.hid rfl, by show 1 ≤ 180; omega, by show 1 ≤ 1; omega, by show m ≤ 1 + 60; omega, Lib.hid (fun c hc => by simp at hc; subst hc; have := HG.out.2.1; exact ⟨by decide, by show 97 - 97 < _; omega⟩), Lib.hid rfl, Below.refl _ _, HI⟩
    case round =>
      obtain ⟨f, l, t, rfl, HT, HS, ht180, hl1, hf, HL, H97, hB, HR⟩ := hrel
      obtain ⟨wo, rfl⟩ : ∃ wo : World, wo = wr := ⟨_, rfl⟩
      have hts := HS.out
      by_cases hlt : l.length < m
      · obtain ⟨f, rfl⟩ : ∃ k, f = k + 1 := ⟨f - 1, by omega⟩
        have hltm : (t.size : Int) < (m : Int) := by omega
        have hstep := specRun_step (I := I) (f := f) hlt
        have HST := Lib.hid hstep
        have hgr := flat_grows HG.out HL.out H97.out (by omega)
        have HGR := Lib.hid hgr
        have HLF := Lib.hid (lets_flat HG.out HL.out)
        have hfl := (flat_len HG.out HL.out).2
        have ht60 : t.size ≤ 60 := by omega
        clear hstep hgr
        go_wp2_with fail
        go_loopw [8, 9] (fun u q wr => ∃ (i : Nat) (r : ByteArray), q = .int .i64 i ∧ u = .string r ∧ Hid (r = bt ((l.take i).flatMap (img I))) ∧ r.size ≤ 3 * i ∧ i ≤ l.length ∧ Below W1.heap.size W1 wr) (fun _ q _ => l.length - (intOf q).toNat)
        case atStart => exact ⟨0, ⟨#[]⟩, rfl, rfl, Lib.hid rfl, by show 0 ≤ _; omega, Nat.zero_le _, hB⟩
        case round =>
          clear hB
          obtain ⟨i, r, rfl, rfl, HRR, hr3, hil, hB⟩ := hrel
          by_cases hi : i < l.length
          · have hit : i < t.size := by omega
            have hti : t[i]'hit = l[i]'hi := by
              have h2 : i < (bt l).size := hi
              have h3 : (bt l)[i]'h2 = l[i]'hi := rfl
              have h4 : t[i]'hit = (bt l)[i]'h2 := by
                have := HT.out
                subst this
                rfl
              rw [h4, h3]
            have hle := HL.out (l[i]'hi) (List.getElem_mem _)
            have hmem := img_mem hle.2
            have hgi := HG.out.1 _ hmem
            have hft := flat_take (I := I) l i hi
            have hcell := C.out _ hle.2
            rw [show I[(l[i]'hi).toNat - 97]'hle.2 = img I (l[i]'hi) by unfold img; rw [List.getD_eq_getElem?_getD, List.getElem?_eq_getElem hle.2]; rfl] at hcell
            rw [← hti] at hle hgi hcell hft
            generalize hrg : img I (t[i]'hit) = rr at *
            obtain ⟨a1, a2⟩ := hle
            obtain ⟨r1, r3, hrl⟩ := hgi
            obtain ⟨n, hn⟩ : ∃ n : Nat, ((t[i]'hit).toNat : Int) = (n : Int) + 97 := ⟨(t[i]'hit).toNat - 97, by omega⟩
            have hnn : (t[i]'hit).toNat - 97 = n := by omega
            rw [hnn] at hcell a2
            have E1 : Hid (((t[i]'hit).toNat : Int) - 97 = n) := Lib.hid (by omega)
            have hn2 : n < 2 := by omega
            have happ : r ++ bt rr = bt ((l.take (i + 1)).flatMap (img I)) := by rw [HRR.out, bt_app, hft]
            have hrs : (bt rr).size = rr.length := rfl
            have HAP := Lib.hid happ
            generalize hbr : bt rr = tr at *
            have htr : tr.size ≤ 3 := by omega
            have hasz : (r ++ tr).size = r.size + tr.size := ByteArray.size_append
            have HAS := Lib.hid hasz
            have HC := Lib.hid hcell
            clear hti hmem hft hrg hrl hnn happ hrs hbr hasz hn hcell
            go_wp2_with fail
            refine (l01At_any t i _ hit ht60).mono ?_
            rintro e w2 ⟨rfl, b2⟩
            rw [E1.out]
            have hB2 := hB.then b2
            have kc : w2.cell? ⟨w.heap.size + 1, n, none⟩ = some (.string tr) := by rw [(bcell hB2).1 _ n hgl]; exact HC.out
            go_wp2_with fail
            go_roundw
            case rel => exact ⟨i + 1, r ++ tr, by go_num, rfl, HAP, by have := HAS.out; omega, by omega, hB2⟩
            case measure => simp [intOf]; omega
          · have hE : i = l.length := by omega
            have HN : Hid (r = bt (l.flatMap (img I))) := Lib.hid (by rw [HRR.out, hE, List.take_of_length_le (Nat.le_refl _)])
            have hrz : r.size = (l.flatMap (img I)).length := by rw [HN.out]; rfl
            have HRZ := Lib.hid hrz
            clear hE hrz
            go_wp2_with fail
            go_roundw
            case rel =>
              have q1 := HRZ.out
              have q2 := HGR.out.1
              exact ⟨f, l.flatMap (img I), r, rfl, HN, HRZ, by omega, by omega, by omega, HLF, Lib.hid HGR.out.2, hB, Lib.hid (by rw [← HR.out, HST.out])⟩
            case measure =>
              have q1 := HRZ.out
              have q2 := HGR.out.1
              show m - r.size < m - t.size
              omega
      · have hR := HR.out
        rw [specRun_end hlt] at hR
        have hx : t.extract 0 m = bt ((namedS 2 m).take m) := by rw [HT.out, bt_take, hR]
        have HX := Lib.hid hx
        have hge : m ≤ t.size := by omega
        clear hR hx hlt
        go_wp2_with fail
        go_ret2
        exact ⟨by rw [← HX.out]; rfl, B1.then hB⟩
  · obtain ⟨t0, t1, t2, t3⟩ := hw
    have t1 := t1 (by omega)
    have t2 := t2 (by omega)
    have t3 := t3 (by omega)
    simp at t0 t1 t2 t3
    go_enter Try.func135, Try.ntmps135
    go_wp2_with fail
    obtain ⟨W1, hW1⟩ : ∃ W1 : World, W1 = (w.alloc (.cells #[] 9)).alloc (.cells #[.string ⟨#[97, 98, 99]⟩, .string ⟨#[97, 99]⟩, .string ⟨#[98]⟩] 9) := ⟨_, rfl⟩
    have o1 : OwnS W1 (w.heap.size + 1) (.slice (some ⟨w.heap.size + 1, 0, none⟩) 3 3) ((imgs 3).map bt) := by
      have h := World.ownsRow_lit (base := w.heap.size + 1) (size := 1) (w.alloc (.cells #[] 9)) #[.string ⟨#[97, 98, 99]⟩, .string ⟨#[97, 99]⟩, .string ⟨#[98]⟩] 3 (e := 9) (by simp) (by decide) rfl
      rw [show (w.alloc (.cells #[] 9)).heap.size = w.heap.size + 1 by simp] at h
      rw [hW1]
      exact h
    have B1 : Below w.heap.size w W1 := by rw [hW1]; exact (Below.new _ _).alloc (by simp) _
    have hsz1 : W1.heap.size = w.heap.size + 2 := by rw [hW1]; simp
    rw [← hW1]
    have HZ1 := Lib.hid hsz1
    have HG := Lib.hid (imgs_good 3 (by omega))
    have HI : Hid (specRun (imgs 3) m 60 [97] = namedS 3 m) := Lib.hid rfl
    have hIn : (imgs 3).length = 3 := rfl
    obtain ⟨g, cap, hv, hg, _, cell⟩ := o1.rowS (by rw [hIn]; omega)
    have hgv : g = w.heap.size + 1 := by injection hv with h1; injection h1 with h1; injection h1 with h1; exact h1.symm
    subst hgv
    have C := Lib.hid cell
    clear hW1 o1 cell hv hsz1 hg
    generalize hIm : imgs 3 = I at *
    have hIle : I.length ≤ 3 := by omega
    clear hIm hIn
    have hbz1 := B1.size
    have hgl : w.heap.size + 1 < W1.heap.size := by have := HZ1.out; omega
    go_wp2_with fail
    go_loopw [7] (fun o wr => ∃ (f : Nat) (l : List UInt8) (t : ByteArray), o = .string t ∧ Hid (t = bt l) ∧ Hid (t.size = l.length) ∧ t.size ≤ 180 ∧ 1 ≤ l.length ∧ m ≤ l.length + f ∧ Hid (lets I l) ∧ Hid (l.getD 0 0 = 97) ∧ Below W1.heap.size W1 wr ∧ Hid (specRun I m f l = namedS 3 m)) (fun o _ => m - szOf o)
    case atStart => exact ⟨60, [97], bt [97], rfl, Lib.hid rfl, Lib.hid rfl, by show 1 ≤ 180; omega, by show 1 ≤ 1; omega, by show m ≤ 1 + 60; omega, Lib.hid (fun c hc => by simp at hc; subst hc; have := HG.out.2.1; exact ⟨by decide, by show 97 - 97 < _; omega⟩), Lib.hid rfl, Below.refl _ _, HI⟩
    case round =>
      obtain ⟨f, l, t, rfl, HT, HS, ht180, hl1, hf, HL, H97, hB, HR⟩ := hrel
      obtain ⟨wo, rfl⟩ : ∃ wo : World, wo = wr := ⟨_, rfl⟩
      have hts := HS.out
      by_cases hlt : l.length < m
      · obtain ⟨f, rfl⟩ : ∃ k, f = k + 1 := ⟨f - 1, by omega⟩
        have hltm : (t.size : Int) < (m : Int) := by omega
        have hstep := specRun_step (I := I) (f := f) hlt
        have HST := Lib.hid hstep
        have hgr := flat_grows HG.out HL.out H97.out (by omega)
        have HGR := Lib.hid hgr
        have HLF := Lib.hid (lets_flat HG.out HL.out)
        have hfl := (flat_len HG.out HL.out).2
        have ht60 : t.size ≤ 60 := by omega
        clear hstep hgr
        go_wp2_with fail
        go_loopw [8, 9] (fun u q wr => ∃ (i : Nat) (r : ByteArray), q = .int .i64 i ∧ u = .string r ∧ Hid (r = bt ((l.take i).flatMap (img I))) ∧ r.size ≤ 3 * i ∧ i ≤ l.length ∧ Below W1.heap.size W1 wr) (fun _ q _ => l.length - (intOf q).toNat)
        case atStart => exact ⟨0, ⟨#[]⟩, rfl, rfl, Lib.hid rfl, by show 0 ≤ _; omega, Nat.zero_le _, hB⟩
        case round =>
          clear hB
          obtain ⟨i, r, rfl, rfl, HRR, hr3, hil, hB⟩ := hrel
          by_cases hi : i < l.length
          · have hit : i < t.size := by omega
            have hti : t[i]'hit = l[i]'hi := by
              have h2 : i < (bt l).size := hi
              have h3 : (bt l)[i]'h2 = l[i]'hi := rfl
              have h4 : t[i]'hit = (bt l)[i]'h2 := by
                have := HT.out
                subst this
                rfl
              rw [h4, h3]
            have hle := HL.out (l[i]'hi) (List.getElem_mem _)
            have hmem := img_mem hle.2
            have hgi := HG.out.1 _ hmem
            have hft := flat_take (I := I) l i hi
            have hcell := C.out _ hle.2
            rw [show I[(l[i]'hi).toNat - 97]'hle.2 = img I (l[i]'hi) by unfold img; rw [List.getD_eq_getElem?_getD, List.getElem?_eq_getElem hle.2]; rfl] at hcell
            rw [← hti] at hle hgi hcell hft
            generalize hrg : img I (t[i]'hit) = rr at *
            obtain ⟨a1, a2⟩ := hle
            obtain ⟨r1, r3, hrl⟩ := hgi
            obtain ⟨n, hn⟩ : ∃ n : Nat, ((t[i]'hit).toNat : Int) = (n : Int) + 97 := ⟨(t[i]'hit).toNat - 97, by omega⟩
            have hnn : (t[i]'hit).toNat - 97 = n := by omega
            rw [hnn] at hcell a2
            have E1 : Hid (((t[i]'hit).toNat : Int) - 97 = n) := Lib.hid (by omega)
            have hn2 : n < 3 := by omega
            have happ : r ++ bt rr = bt ((l.take (i + 1)).flatMap (img I)) := by rw [HRR.out, bt_app, hft]
            have hrs : (bt rr).size = rr.length := rfl
            have HAP := Lib.hid happ
            generalize hbr : bt rr = tr at *
            have htr : tr.size ≤ 3 := by omega
            have hasz : (r ++ tr).size = r.size + tr.size := ByteArray.size_append
            have HAS := Lib.hid hasz
            have HC := Lib.hid hcell
            clear hti hmem hft hrg hrl hnn happ hrs hbr hasz hn hcell
            go_wp2_with fail
            refine (l01At_any t i _ hit ht60).mono ?_
            rintro e w2 ⟨rfl, b2⟩
            rw [E1.out]
            have hB2 := hB.then b2
            have kc : w2.cell? ⟨w.heap.size + 1, n, none⟩ = some (.string tr) := by rw [(bcell hB2).1 _ n hgl]; exact HC.out
            go_wp2_with fail
            go_roundw
            case rel => exact ⟨i + 1, r ++ tr, by go_num, rfl, HAP, by have := HAS.out; omega, by omega, hB2⟩
            case measure => simp [intOf]; omega
          · have hE : i = l.length := by omega
            have HN : Hid (r = bt (l.flatMap (img I))) := Lib.hid (by rw [HRR.out, hE, List.take_of_length_le (Nat.le_refl _)])
            have hrz : r.size = (l.flatMap (img I)).length := by rw [HN.out]; rfl
            have HRZ := Lib.hid hrz
            clear hE hrz
            go_wp2_with fail
            go_roundw
            case rel =>
              have q1 := HRZ.out
              have q2 := HGR.out.1
              exact ⟨f, l.flatMap (img I), r, rfl, HN, HRZ, by omega, by omega, by omega, HLF, Lib.hid HGR.out.2, hB, Lib.hid (by rw [← HR.out, HST.out])⟩
            case measure =>
              have q1 := HRZ.out
              have q2 := HGR.out.1
              show m - r.size < m - t.size
              omega
      · have hR := HR.out
        rw [specRun_end hlt] at hR
        have hx : t.extract 0 m = bt ((namedS 3 m).take m) := by rw [HT.out, bt_take, hR]
        have HX := Lib.hid hx
        have hge : m ≤ t.size := by omega
        clear hR hx hlt
        go_wp2_with fail
        go_ret2
        exact ⟨by rw [← HX.out]; rfl, B1.then hB⟩

end Go.Proofs.Ythjbdcoklgnnlab

/-! ### Draw3 -/
namespace Go.Proofs.Ythjbdcoklgnnlab
set_option linter.unusedVariables false
set_option linter.unusedSimpArgs false
open Go.RowKit

def namesL : List ByteArray := [⟨#[102, 105, 98, 111, 110, 97, 99, 99, 105]⟩, ⟨#[116, 104, 117, 101]⟩, ⟨#[100, 111, 117, 98, 108, 105, 110, 103]⟩, ⟨#[116, 114, 105, 112, 108, 101]⟩]
theorem namesL_way : ∀ j (h : j < namesL.length), way (namesL[j]'h) j := by
  intro j h
  match j, h with
  | 0, _ | 1, _ | 2, _ | 3, _ =>
    unfold way
    simp only [ByteArray.toList_eq, namesL, List.getElem_cons_zero, List.getElem_cons_succ]
    decide
  | j + 4, h => simp [namesL] at h; omega

set_option maxRecDepth 100000 in
theorem l01Names_any (w : World) :
    Calls Try.prog 190 #[] w fun e w' => e = .returned (.slice (some ⟨w.heap.size, 0, none⟩) 4 4) ∧ w' = w.alloc (.cells (namesL.map Value.string).toArray 9) := by
  go_enter Try.func190, Try.ntmps190
  go_wp2
  go_ret
  exact ⟨rfl, rfl⟩

theorem names_alloc {W : World} {g : Nat} {o : Obj} (h : ∀ j (h : j < namesL.length), W.cell? ⟨g, j, none⟩ = some (.string (namesL[j]'h))) (hg : g < W.heap.size) : ∀ j (h : j < namesL.length), (W.alloc o).cell? ⟨g, j, none⟩ = some (.string (namesL[j]'h)) := fun j hj => by
  rw [(Below.new W o).cell (p := ⟨g, j, none⟩) hg]; exact h j hj
theorem names_grown {W W' : World} {g b : Nat} (h : ∀ j (h : j < namesL.length), W.cell? ⟨g, j, none⟩ = some (.string (namesL[j]'h))) (hg : g < W.heap.size) (hb : g ≠ b) (k : W.grownBy W' (some b)) : ∀ j (h : j < namesL.length), W'.cell? ⟨g, j, none⟩ = some (.string (namesL[j]'h)) := fun j hj => by
  rw [grown_cell k (p := ⟨g, j, none⟩) hg (fun e => hb (Option.some.inj e))]; exact h j hj

set_option maxRecDepth 100000 in
set_option maxHeartbeats 4000000 in
theorem l01Draw_any (w0 W : World) (b : Nat) (hS : Src w0 W b) (hB : Below w0.heap.size w0 W) :
    Calls Try.prog 161 #[.pointer (some ⟨b, 0, none⟩)] W (DrawnT 60 w0 W b) := by
  have HB0 := hS.ge
  have CN := Lib.hid (l01Next_i w0 W b 6 hS hB (by omega) (by omega))
  clear hS
  go_enter Try.func161, Try.ntmps161
  go_wp2_with fail
  refine CN.out.mono ?_
  rintro e W1 ⟨v, rfl, v0, v1, s1, g1⟩
  have hB1 := below_src hB HB0 g1
  have hbl := s1.lt
  by_cases h0 : v = 0
  · subst h0
    go_wp2_with fail
    refine (l01Names_any _).mono ?_
    rintro e W2 ⟨rfl, hW2⟩
    have s2 : Src w0 W2 b := by rw [hW2]; exact s1.below (Below.new _ _)
    have hB2 : Below w0.heap.size w0 W2 := by rw [hW2]; exact hB1.alloc hB1.size _
    have g2 : W1.grownBy W2 (some b) := by rw [hW2]; exact grown_of_below (Below.new _ _) _
    have hcn : ∀ j (h : j < namesL.length), W2.cell? ⟨W1.heap.size, j, none⟩ = some (.string (namesL[j]'h)) := by rw [hW2]; exact cells_new_strs W1 namesL 9
    have hz2 : W1.heap.size < W2.heap.size := by rw [hW2]; simp
    have hgb : W1.heap.size ≠ b := by omega
    have hcD : ∀ j (h : j < namesL.length), W2.drew.cell? ⟨W1.heap.size, j, none⟩ = some (.string (namesL[j]'h)) := hcn
    have HW := Lib.hid namesL_way
    have hcE : ∀ j (h : j < namesL.length), (W2.alloc (.cells #[.int .i64 12, .int .i64 30, .int .i64 61] 2)).drew.cell? ⟨W1.heap.size, j, none⟩ = some (.string (namesL[j]'h)) := names_alloc hcn hz2
    have hLE : ∀ j (h : j < [12, 30, 61].length), (W2.alloc (.cells #[.int .i64 12, .int .i64 30, .int .i64 61] 2)).drew.cell? ⟨W2.heap.size, j, none⟩ = some (.int .i64 ([12, 30, 61][j]'h)) := cells_new_ints W2 [12, 30, 61] 2
    have hzE : (W2.alloc (.cells #[.int .i64 12, .int .i64 30, .int .i64 61] 2)).drew.heap.size = W2.heap.size + 1 := by show (W2.alloc _).heap.size = _; simp
    have hBE : Below w0.heap.size w0 (W2.alloc (.cells #[.int .i64 12, .int .i64 30, .int .i64 61] 2)).drew := (hB2.alloc hB2.size _).drew
    have hb2l := s2.lt
    clear hW2 CN hcn
    have hz2d : W1.heap.size < W2.drew.heap.size := hz2
    generalize hgg : W1.heap.size = gn at *
    go_wp2_with fail
    go_region_held3 (fun w' => ∀ j (h : j < namesL.length), w'.cell? ⟨gn, j, none⟩ = some (.string (namesL[j]'h))) (first | assumption | exact names_alloc (by assumption) (by first | omega | (simp; omega)))
     (first
      | (go_at_call 119; refine CC.out.mono ?_; clear CC; rintro e Wc ⟨vc, rfl, vc0, vc1, sc, gc⟩; obtain ⟨q, rfl⟩ := Int.eq_ofNat_of_zero_le vc0; have kc := names_grown kb hzb hgb gc; have hzc : gn < Wc.heap.size := Nat.lt_of_lt_of_le hzb gc.size; have CD := Lib.hid (l01Named_some (namesL[m]'hm) q m Wc (by omega) (by omega) (HW.out m hm)))
      | (go_at_call 119; refine (l01Next_i w0 _ b 4 (by first | exact s2 | exact s2.below (Below.new _ _).drew) (by first | exact hB2.drew | exact hBE) (by omega) (by omega)).mono ?_; rintro e Wa ⟨va, rfl, va0, va1, sa, ga⟩; have ka := names_grown (by first | exact hcD | exact hcE) (by first | exact hz2d | (rw [hzE]; omega)) hgb ga; have hba := below_src (by first | exact hB2.drew | exact hBE) HB0 ga; have hza : gn < Wa.heap.size := (by have h := ga.size; first | exact Nat.lt_of_lt_of_le hz2d h | (rw [hzE] at h; omega)); (first | (have hza2 : W2.heap.size < Wa.heap.size := (by have h := ga.size; rw [hzE] at h; omega); have hla : ∀ j (h : j < [12, 30, 61].length), Wa.cell? ⟨W2.heap.size, j, none⟩ = some (.int .i64 ([12, 30, 61][j]'h)) := (fun j hj => by rw [grown_cell ga (p := ⟨W2.heap.size, j, none⟩) (by show W2.heap.size < _; rw [hzE]; omega) (fun e => by have h : W2.heap.size = b := Option.some.inj e; omega)]; exact hLE j hj)) | skip); have gA : W2.grownBy Wa (some b) := (by first | exact ⟨ga.os, ga.tape, ga.output, ga.size, ga.block⟩ | exact grown_trans (grown_of_below ((Below.new W2 _).drew) _) ga); obtain ⟨m, rfl⟩ := Int.eq_ofNat_of_zero_le va0; have hm : m < namesL.length := (by simp [namesL]; omega); have hm4 : (m : Int) < 4 := (by omega))
      | (go_at_call 97; refine (l01Pick_any w0 Wa b W2.heap.size [12, 30, 61] sa hba hza2 (by omega) (by decide) (by decide) hla).mono ?_; rintro e Wb ⟨pb, rfl, hpb, sb, gb⟩; have hpb2 : 1 ≤ pb ∧ pb ≤ 61 := (by simp at hpb; omega); clear hpb; have gB : Wa.grownBy Wb (some b) := gb; have kb := names_grown ka hza hgb gb; have hbb := below_src hba HB0 gb; have hzb : gn < Wb.heap.size := (by have h := gb.size; omega); have CC := Lib.hid (l01Next_i w0 Wb b pb sb hbb hpb2.1 (by omega)))
      | (go_at_call 97; refine (l01Pick_any w0 _ b _ [12, 30, 61] (sa.below (Below.new _ _)) (hba.alloc hba.size _) (by simp) (by have := sa.lt; omega) (by decide) (by decide) (cells_new_ints Wa [12, 30, 61] _)).mono ?_; rintro e Wb ⟨pb, rfl, hpb, sb, gb⟩; have hpb2 : 1 ≤ pb ∧ pb ≤ 61 := (by simp at hpb; omega); clear hpb; have gB : Wa.grownBy Wb (some b) := grown_trans (grown_of_below (Below.new Wa _) _) gb; have kb := names_grown (names_alloc (o := .cells ([12, 30, 61].map (Value.int .i64)).toArray 2) ka hza) (by rw [World.size_alloc]; omega) hgb gb; have hbb := below_src (hba.alloc hba.size _) HB0 gb; have hzb : gn < Wb.heap.size := (by have h := gb.size; rw [World.size_alloc] at h; omega); have CC := Lib.hid (l01Next_i w0 Wb b pb sb hbb hpb2.1 (by omega)))
      | (go_at_call 135; refine CD.out.mono ?_; rintro e Wd ⟨rfl, bd⟩; have kd : ∀ j (h : j < namesL.length), Wd.cell? ⟨gn, j, none⟩ = some (.string (namesL[j]'h)) := fun j hj => (bd.cell (p := ⟨gn, j, none⟩) hzc).trans (kc j hj)))
    all_goals
      have hq60 : (bt ((namedS m q).take q)).size ≤ 60 := by rw [bt_size, List.length_take]; omega
      have gE := grown_trans (grown_trans (grown_trans (grown_trans (grown_trans g1 g2) gA) gB) gc) (grown_of_below bd (some b))
      have sE := sc.below bd
      go_wp2
      go_ret
      exact ⟨_, rfl, hq60, sE, gE⟩
  · by_cases h1 : v = 1
    · subst h1
      have CK := Lib.hid (l01Next_i w0 W1 b 6 s1 hB1 (by omega) (by omega))
      go_wp2_with fail
      refine CK.out.mono ?_
      rintro e W2 ⟨k, rfl, k0, k1, s2, g2⟩
      have hB2 := below_src hB1 HB0 g2
      have hbl2 := s2.lt
      go_wp2_with fail
      refine (l01Pick_any w0 _ b _ [2, 2, 3] (s2.below (Below.new _ _)) (hB2.alloc hB2.size _) (by simp) (by omega) (by decide) (by decide) (cells_new_ints W2 [2, 2, 3] _)).mono ?_
      rintro e W3 ⟨z, rfl, hz, s3, g3⟩
      have hz2 : 1 ≤ z ∧ z ≤ 5 := by simp at hz; omega
      have hB3 := below_src (hB2.alloc hB2.size _) HB0 g3
      have G3 := grown_trans (grown_trans g1 g2) (grown_trans (grown_of_below (Below.new W2 _) (some b)) g3)
      clear hz
      go_wp2_with fail
      refine (l01DrawOf_any w0 _ b (1 + k) z s3 hB3 (by omega) (by omega) hz2.1 hz2.2).mono ?_
      rintro e W4 ⟨u, rfl, hu, s4, g4⟩
      have hB4 := below_src hB3 HB0 g4
      have G4 := grown_trans G3 g4
      have CL := Lib.hid (l01Next_i w0 W4 b 4 s4 hB4 (by omega) (by omega))
      go_wp2_with fail
      refine CL.out.mono ?_
      rintro e W5 ⟨q, rfl, q0, q1, s5, g5⟩
      have hB5 := below_src hB4 HB0 g5
      have G5 := grown_trans G4 g5
      have hus : u.size ≤ 6 := by omega
      have hu1 : 1 ≤ u.size := by omega
      clear hu
      go_wp2_with fail
      go_loopg [7, 8] 4 (fun g s7 s8 wr => ∃ (t : ByteArray) (j : Int), 0 ≤ j ∧ j ≤ g ∧ t.size + j.toNat * 6 ≤ 24 ∧ s7 = .string t ∧ s8 = .int .i64 j ∧ wr = W5)
      case atStart => exact ⟨⟨#[]⟩, 1 + q, by omega, by omega, by show 0 + _ ≤ 24; omega, rfl, rfl, rfl⟩
      case round =>
        obtain ⟨t, j, j0, jg, ht, rfl, rfl, rfl⟩ := hrel
        by_cases hp : 0 < j
        · obtain ⟨g, rfl⟩ : ∃ g, gk = g + 1 := ⟨gk - 1, by omega⟩
          have hsum : ∀ W, (Op.stringOp .add t u).run Try.prog W = .ok (.string (t ++ u)) W := fun W => run_string_add_sum W _ _ (by omega)
          have y1 : (t ++ u).size = t.size + u.size := by rw [ByteArray.size_append]
          generalize t ++ u = o1 at *
          go_wp2
          go_roundg g
          case measure => omega
          case rel => exact ⟨o1, j - 1, by omega, by omega, by omega, rfl, by go_num, by first | rfl | trivial⟩
        · have CM := Lib.hid (l01Next_i w0 wr b u.size s5 hB5 (by omega) (by omega))
          have hts : t.size ≤ 24 := by omega
          go_wp2_with fail
          refine CM.out.mono ?_
          rintro e W6 ⟨p, rfl, p0, p1, s6, g6⟩
          obtain ⟨n, rfl⟩ := Int.eq_ofNat_of_zero_le p0
          have hsl1 := fun W => slice_to u (n : Int) n rfl (by omega) W
          have z1 : (u.extract 0 n).size = n := by simp; omega
          generalize u.extract 0 n = u1 at *
          have hsum : ∀ W, (Op.stringOp .add t u1).run Try.prog W = .ok (.string (t ++ u1)) W := fun W => run_string_add_sum W _ _ (by omega)
          have y1 : (t ++ u1).size = t.size + u1.size := by rw [ByteArray.size_append]
          generalize t ++ u1 = o1 at *
          have G6 := grown_trans G5 g6
          go_wp2_with fail
          go_ret
          exact ⟨o1, rfl, by omega, s6, G6⟩
    · by_cases h2 : v = 2
      · subst h2
        have CK := Lib.hid (l01Next_i w0 W1 b 12 s1 hB1 (by omega) (by omega))
        go_wp2_with fail
        refine CK.out.mono ?_
        rintro e W2 ⟨k, rfl, k0, k1, s2, g2⟩
        have hB2 := below_src hB1 HB0 g2
        have hbl2 := s2.lt
        go_wp2_with fail
        refine (l01Pick_any w0 _ b _ [2, 2, 3] (s2.below (Below.new _ _)) (hB2.alloc hB2.size _) (by simp) (by omega) (by decide) (by decide) (cells_new_ints W2 [2, 2, 3] _)).mono ?_
        rintro e W3 ⟨z, rfl, hz, s3, g3⟩
        have hz2 : 1 ≤ z ∧ z ≤ 5 := by simp at hz; omega
        have hB3 := below_src (hB2.alloc hB2.size _) HB0 g3
        have G3 := grown_trans (grown_trans g1 g2) (grown_trans (grown_of_below (Below.new W2 _) (some b)) g3)
        clear hz
        go_wp2_with fail
        refine (l01DrawOf_any w0 _ b k z s3 hB3 (by omega) k0 hz2.1 hz2.2).mono ?_
        rintro e W4 ⟨u, rfl, hu, s4, g4⟩
        have hB4 := below_src hB3 HB0 g4
        have G4 := grown_trans G3 g4
        have hus : u.size ≤ 11 := by omega
        clear hu
        have CL := Lib.hid (l01Next_i w0 W4 b 2 s4 hB4 (by omega) (by omega))
        go_wp2_with fail
        refine CL.out.mono ?_
        rintro e W5 ⟨q, rfl, q0, q1, s5, g5⟩
        have hB5 := below_src hB4 HB0 g5
        have G5 := grown_trans G4 g5
        go_wp2_with fail
        refine (l01DrawOf_any w0 _ b q 2 s5 hB5 (by omega) q0 (by omega) (by omega)).mono ?_
        rintro e W6 ⟨m, rfl, hm, s6, g6⟩
        have G6 := grown_trans G5 g6
        have hms : m.size ≤ 1 := by omega
        clear hm
        have hsum : ∀ W, (Op.stringOp .add u m).run Try.prog W = .ok (.string (u ++ m)) W := fun W => run_string_add_sum W _ _ (by omega)
        have y1 : (u ++ m).size = u.size + m.size := by rw [ByteArray.size_append]
        generalize u ++ m = o1 at *
        go_wp2_with fail
        refine (l01Reversed_any u _ (by omega)).mono ?_
        rintro e W7 ⟨rfl, b7⟩
        have hrv : (rev u).size = u.size := rev_size u
        generalize rev u = r at *
        have hsum2 : ∀ W, (Op.stringOp .add o1 r).run Try.prog W = .ok (.string (o1 ++ r)) W := fun W => run_string_add_sum W _ _ (by omega)
        have y2 : (o1 ++ r).size = o1.size + r.size := by rw [ByteArray.size_append]
        generalize o1 ++ r = o2 at *
        have s7 := s6.below b7
        have G7 := grown_trans G6 (grown_of_below b7 (some b))
        go_wp2_with fail
        go_ret
        exact ⟨o2, rfl, by omega, s7, G7⟩
      · by_cases h3 : v = 3
        · subst h3
          go_wp2_with fail
          refine (l01Pick_any w0 _ b _ [20, 40, 61] (s1.below (Below.new _ _)) (hB1.alloc hB1.size _) (by simp) (by omega) (by decide) (by decide) (cells_new_ints W1 [20, 40, 61] _)).mono ?_
          rintro e W2 ⟨k, rfl, hk, s2, g2⟩
          have hk2 : 1 ≤ k ∧ k ≤ 61 := by simp at hk; omega
          have hB2 := below_src (hB1.alloc hB1.size _) HB0 g2
          have G2 := grown_trans g1 (grown_trans (grown_of_below (Below.new W1 _) (some b)) g2)
          clear hk
          have CK := Lib.hid (l01Next_i w0 W2 b k s2 hB2 hk2.1 (by omega))
          go_wp2_with fail
          refine CK.out.mono ?_
          rintro e W3 ⟨q, rfl, q0, q1, s3, g3⟩
          have hB3 := below_src hB2 HB0 g3
          have hbl3 := s3.lt
          have G3 := grown_trans G2 g3
          go_wp2_with fail
          refine (l01Pick_any w0 _ b _ [1, 2, 2, 3, 3, 4, 5] (s3.below (Below.new _ _)) (hB3.alloc hB3.size _) (by simp) (by omega) (by decide) (by decide) (cells_new_ints W3 [1, 2, 2, 3, 3, 4, 5] _)).mono ?_
          rintro e W4 ⟨z, rfl, hz, s4, g4⟩
          have hz2 : 1 ≤ z ∧ z ≤ 5 := by simp at hz; omega
          have hB4 := below_src (hB3.alloc hB3.size _) HB0 g4
          have G4 := grown_trans G3 (grown_trans (grown_of_below (Below.new W3 _) (some b)) g4)
          clear hz
          go_wp2_with fail
          refine (l01DrawOf_any w0 _ b q z s4 hB4 (by omega) q0 hz2.1 hz2.2).mono ?_
          rintro e W5 ⟨u, rfl, hu, s5, g5⟩
          go_wp2_with fail
          go_ret
          exact ⟨u, rfl, by omega, s5, grown_trans G4 g5⟩
        · go_wp2_with fail
          refine (l01Small_any w0 W1 b s1 hB1).mono ?_
          rintro e W2 ⟨u, rfl, hu, s2, g2⟩
          go_wp2_with fail
          go_ret
          exact ⟨u, rfl, by omega, s2, grown_trans g1 g2⟩

set_option maxRecDepth 100000 in
theorem l01Spoil_any (w0 W : World) (b : Nat) (hS : Src w0 W b) (hB : Below w0.heap.size w0 W) :
    Calls Try.prog 117 #[.pointer (some ⟨b, 0, none⟩)] W (DrawnT 200 w0 W b) := by
  have HB0 := hS.ge
  have CN := Lib.hid (l01Draw_any w0 W b hS hB)
  clear hS
  go_enter Try.func117, Try.ntmps117
  go_wp2_with fail
  refine CN.out.mono ?_
  rintro e W1 ⟨x, rfl, hx, s1, g1⟩
  have hB1 := below_src hB HB0 g1
  have CB := Lib.hid (l01Bad_any w0 W1 b x s1 hB1 (by omega))
  go_wp2_with fail
  refine CB.out.mono ?_
  rintro e W2 ⟨y, rfl, hy, s2, g2⟩
  go_wp2_with fail
  go_ret
  exact ⟨y, rfl, by omega, s2, grown_trans g1 g2⟩

end Go.Proofs.Ythjbdcoklgnnlab

/-! ### Reverse -/
namespace Go.Proofs.Ythjbdcoklgnnlab
set_option linter.unusedVariables false
set_option linter.unusedSimpArgs false
open Go.RowKit

def revR (x : ByteArray) : ByteArray × Int := if ¬ IsW x then (tE, 1) else (rev x, 0)
theorem revR_bad {x : ByteArray} (h : ¬ IsW x) : revR x = (⟨#[]⟩, 1) := if_pos h
theorem revR_ok {x : ByteArray} (h : IsW x) : revR x = (rev x, 0) := by unfold revR; rw [if_neg (not_not_intro h)]

theorem _root_.Go.World.grownBy.trans_drew {w w' : World} {r : Option Nat} (h : w.grownBy w' r) : w.grownBy w'.drew r := ⟨h.os, h.tape, h.output, h.size, h.block⟩
theorem two_sets {w : World} {g i j : Nat} {v u x y : Value} (hi : w.cell? ⟨g, i, none⟩ = some x) (hj : w.cell? ⟨g, j, none⟩ = some y) (hij : i ≠ j) (p : Nat) :
    ((w.setCell ⟨g, i, none⟩ v).setCell ⟨g, j, none⟩ u).cell? ⟨g, p, none⟩ = if p = j then some u else if p = i then some v else w.cell? ⟨g, p, none⟩ := by
  have ne : ∀ {a b : Nat}, a ≠ b → (⟨g, a, none⟩ : Addr) ≠ ⟨g, b, none⟩ := fun h e => h (by injection e)
  by_cases h1 : p = j
  · subst h1
    rw [if_pos rfl]
    exact World.cell?_setCell_same _ _ _ (u := y) (by rw [World.cell?_setCell_other (h := ne hij)]; exact hj)
  · rw [if_neg h1, World.cell?_setCell_other (h := ne (Ne.symm h1))]
    by_cases h2 : p = i
    · subst h2
      rw [if_pos rfl]
      exact World.cell?_setCell_same _ _ _ (u := x) hi
    · rw [if_neg h2, World.cell?_setCell_other (h := ne (Ne.symm h2))]

/-- The byte at place p of n when the first i pairs have been exchanged. -/
def rvk (l : List UInt8) (i p : Nat) : Int := if p < i ∨ l.length ≤ p + i then ((l.getD (l.length - 1 - p) 0).toNat : Int) else ((l.getD p 0).toNat : Int)

set_option maxRecDepth 100000 in
set_option maxHeartbeats 2000000 in
theorem reverse_any (g cap : Nat) (l : List UInt8) (w : World) (hg : g < w.heap.size) (hl : l.length ≤ 60) (hc : l.length ≤ cap)
    (cell : ∀ p, p < l.length → w.cell? ⟨g, p, none⟩ = some (.int .u8 ((l.getD p 0).toNat : Int))) (fz : ∀ p, p < l.length → w.frozen? ⟨g, p, none⟩ = false) :
    Calls Try.prog 136 #[.slice (some ⟨g, 0, none⟩) l.length cap] w fun e w' => e = .returned (.tuple #[]) ∧ (∀ p, p < l.length → w'.cell? ⟨g, p, none⟩ = some (.int .u8 ((l.getD (l.length - 1 - p) 0).toNat : Int))) ∧ w.grownBy w' (some g) := by
  have C := Lib.hid cell
  have Z := Lib.hid fz
  clear cell fz
  generalize hN : l.length = N at *
  have HN := Lib.hid hN
  clear hN
  go_enter Try.func136, Try.ntmps136
  go_wp2
  go_loopw [2, 3] (fun i j wr => ∃ k : Nat, k ≤ N ∧ i = .int .i64 k ∧ j = .int .i64 ((N : Int) - 1 - k) ∧ 2 * k ≤ N + 1 ∧ Hid (∀ p, p < N → wr.cell? ⟨g, p, none⟩ = some (.int .u8 (rvk l k p))) ∧ Hid (∀ p, p < N → wr.frozen? ⟨g, p, none⟩ = false) ∧ w.grownBy wr (some g))
    (fun i j _ => ((intOf j) - (intOf i) + 2).toNat)
  case atStart =>
    refine ⟨0, Nat.zero_le _, rfl, by simp, by omega, Lib.hid fun p hp => ?_, Z, grown_refl _ _⟩
    rw [C.out p hp]
    have := HN.out
    unfold rvk
    rw [if_neg (by omega)]
  case round =>
    obtain ⟨k, hk, rfl, rfl, hk2, hC, hZ, hG⟩ := hrel
    by_cases hlt : 2 * k + 1 < N
    · obtain ⟨m, hm⟩ : ∃ m : Nat, (N : Int) - 1 - k = m := ⟨N - 1 - k, by omega⟩
      have hmk : k < m := by omega
      have hmN : m < N := by omega
      have c1 := hC.out k (by omega)
      have c2 := hC.out m hmN
      have f1 := hZ.out k (by omega)
      have f2 := hZ.out m hmN
      generalize hz1 : rvk l k k = z1 at c1
      generalize hz2 : rvk l k m = z2 at c2
      have HZ1 := Lib.hid hz1
      have HZ2 := Lib.hid hz2
      have HM := Lib.hid hm
      have hcc : m < cap := by omega
      rw [hm]
      clear hz1 hz2 hm
      go_wp2
      go_region
      all_goals
        go_wp2
        go_roundw
        case rel =>
          have hm := HM.out
          have hn := HN.out
          refine ⟨k + 1, by omega, by go_num, by go_num, by omega, Lib.hid fun p hp => ?_, Lib.hid fun p hp => ?_, ?_⟩
          · rw [World.cell?_drew, two_sets c1 c2 (by omega) p]
            by_cases e1 : p = m
            · subst e1
              rw [if_pos rfl, ← HZ1.out]
              unfold rvk
              rw [if_neg (by omega), if_pos (by omega), show l.length - 1 - p = k by omega]
            · rw [if_neg e1]
              by_cases e2 : p = k
              · subst e2
                rw [if_pos rfl, ← HZ2.out]
                unfold rvk
                rw [if_neg (by omega), if_pos (by omega), show l.length - 1 - p = m by omega]
              · rw [if_neg e2, hC.out p hp]
                unfold rvk
                by_cases h3 : p < k ∨ l.length ≤ p + k
                · rw [if_pos h3, if_pos (by omega)]
                · rw [if_neg h3, if_neg (by omega)]
          · simpa using hZ.out p hp
          · exact (grown_set (grown_set hG _ _) _ _).trans_drew
        case measure => simp [intOf]; have := HM.out; omega
    · have hd : decide ((k : Int) < (N : Int) - 1 - k) = false := by simp; omega
      go_wp2
      go_end0
      refine ⟨rfl, fun p hp => ?_, hG⟩
      have hn := HN.out
      rw [hC.out p hp]
      unfold rvk
      by_cases h3 : p < k ∨ l.length ≤ p + k
      · rw [if_pos h3, hn]
      · rw [if_neg h3, show N - 1 - p = p by omega]

set_option maxRecDepth 100000 in
theorem spec_ReverseOf (x : ByteArray) (w : World) (sx : x.size ≤ maxLen) :
    Calls Try.prog 79 #[.string x] w fun e w' => e = .returned (.tuple #[.string (revR x).1, .int .i64 (revR x).2]) ∧ Below w.heap.size w w' := by
  by_cases h : IsW x
  · rw [revR_ok h]
    have h1 := h.size
    have H := Lib.hid h
    clear h
    go_enter Try.func79, Try.ntmps79
    go_wp2_with fail
    refine (l01Is_yes x _ H.out).mono ?_
    rintro e w1 ⟨rfl, b1⟩
    go_wp2_with fail
    refine (l01Reversed_any x _ h1).mono ?_
    rintro e w2 ⟨rfl, b2⟩
    go_wp2_with fail
    go_ret2
    exact ⟨rfl, b1.then b2⟩
  · rw [revR_bad h]
    have H := Lib.hid h
    clear h
    go_enter Try.func79, Try.ntmps79
    go_wp2_with fail
    refine (l01Is_no x _ sx H.out).mono ?_
    rintro e w1 ⟨rfl, b1⟩
    go_wp2_with fail
    go_ret2
    exact ⟨rfl, b1⟩

set_option maxRecDepth 100000 in
set_option maxHeartbeats 2000000 in
theorem impl_ReverseOf (x : ByteArray) (w : World) (sx : x.size ≤ maxLen) :
    Calls Try.prog 73 #[.string x] w fun e w' => e = .returned (.tuple #[.string (revR x).1, .int .i64 (revR x).2]) ∧ Below w.heap.size w w' := by
  by_cases h : IsW x
  · rw [revR_ok h]
    have h1 := h.size
    have H := Lib.hid h
    clear h
    go_enter Try.func73, Try.ntmps73
    go_wp2_with fail
    refine (isWord_yes x _ H.out).mono ?_
    rintro e w1 ⟨rfl, b1⟩
    have hcv := run_bytes_of_string (P := Try.prog) w1 9 31 5 x Try.underlying9 Try.underlying31 Try.underlying5
    have hrs : (bytesRow x (grownCap w1 x.size 0 5)).size = x.size + (grownCap w1 x.size 0 5 - x.size) := by unfold bytesRow; rw [Array.size_append, Array.size_map, Array.size_replicate]; rfl
    generalize hcp : grownCap w1 x.size 0 5 = cap at hcv hrs
    have hce : x.size ≤ cap := by rw [← hcp]; exact grownCap_ge _ _ _ _
    clear hcp
    have hlen : x.data.toList.length = x.size := rfl
    have cellf : ∀ p, p < x.size → (w1.drew.alloc (.cells (bytesRow x cap) 5 ((bytesRow x cap).size, (bytesRow x cap).size + 1))).cell? ⟨w1.heap.size, p, none⟩ = some (.int .u8 ((x.data.toList.getD p 0).toNat : Int)) := by
      intro p hp
      have := World.cell?_alloc_mark w1.drew (bytesRow x cap) 5 ((bytesRow x cap).size, (bytesRow x cap).size + 1) p
      rw [show w1.drew.heap.size = w1.heap.size from rfl] at this
      rw [this]
      unfold bytesRow
      have hp' : p < x.data.size := hp
      rw [Array.getElem?_append_left (by rw [Array.size_map]; exact hp'), Array.getElem?_map, Array.getElem?_eq_getElem hp', List.getD_eq_getElem?_getD, List.getElem?_eq_getElem (show p < x.data.toList.length from hp')]
      rfl
    have fzf : ∀ p, p < x.size → (w1.drew.alloc (.cells (bytesRow x cap) 5 ((bytesRow x cap).size, (bytesRow x cap).size + 1))).frozen? ⟨w1.heap.size, p, none⟩ = false := by
      intro p hp
      have hh : (w1.drew.alloc (.cells (bytesRow x cap) 5 ((bytesRow x cap).size, (bytesRow x cap).size + 1))).heap[w1.heap.size]? = some (.cells (bytesRow x cap) 5 ((bytesRow x cap).size, (bytesRow x cap).size + 1)) := heap_alloc_new _ _
      unfold World.frozen?
      rw [hh]
      have : p < (bytesRow x cap).size := by rw [hrs]; omega
      simp
      omega
    have hn : (w1.drew.alloc (.cells (bytesRow x cap) 5 ((bytesRow x cap).size, (bytesRow x cap).size + 1))).heap.size = w1.heap.size + 1 := by simp
    have B2 : Below w.heap.size w (w1.drew.alloc (.cells (bytesRow x cap) 5 ((bytesRow x cap).size, (bytesRow x cap).size + 1))) := (b1.drew).alloc b1.size _
    generalize hW : (w1.drew.alloc (.cells (bytesRow x cap) 5 ((bytesRow x cap).size, (bytesRow x cap).size + 1))) = w2 at *
    have CF := Lib.hid cellf
    have FF := Lib.hid fzf
    have HN := Lib.hid hn
    have hwG := b1.size
    clear cellf fzf hn hW b1 hrs hlen
    generalize hG : w1.heap.size = G at *
    clear hG
    go_wp2_with fail
    refine (reverse_any G cap x.data.toList _ (by have := HN.out; omega) h1 hce CF.out FF.out).mono ?_
    rintro e w3 ⟨rfl, hc3, hg3⟩
    have B3 : Below w.heap.size w w3 := B2.grown hg3 B2.size (fun q hq => by injection hq with hq; omega)
    have hrl : (rev x).data.toList.length = x.size := by rw [← rev_size x]; rfl
    have hcv2 : (convert 31 9 (.slice (some ⟨G, 0, none⟩) x.size cap)).run Try.prog w3 = .ok (.string (rev x)) w3 := by
      have h4 := run_convert_bytes_back (P := Try.prog) w3 31 9 5 ⟨G, 0, none⟩ cap (rev x).data.toList Try.underlying31 Try.underlying5 Try.underlying9 (by
        intro j hj
        have hj2 : j < x.size := by omega
        have h5 := hc3 j hj2
        rw [show ((⟨G, 0, none⟩ : Addr).add j) = ⟨G, j, none⟩ by simp [Addr.add]; exact fun h => h.symm, h5]
        have h6 : x.data.toList.length - 1 - j < x.data.toList.length := by
          have : x.data.toList.length = x.size := rfl
          omega
        rw [List.getD_eq_getElem?_getD, List.getElem?_eq_getElem h6]
        have h7 := rev_get x j (by rw [rev_size]; exact hj2) (by omega)
        exact congrArg (fun b : UInt8 => some (Value.int .u8 (b.toNat : Int))) h7.symm)
      rw [hrl] at h4
      simpa using h4
    have HC3 := Lib.hid hc3
    clear hc3 hrl hcv
    go_wp2_with fail
    go_ret2
    exact ⟨rfl, B3⟩
  · rw [revR_bad h]
    have H := Lib.hid h
    clear h
    go_enter Try.func73, Try.ntmps73
    go_wp2_with fail
    refine (isWord_not x _ sx H.out).mono ?_
    rintro e w1 ⟨rfl, b1⟩
    go_wp2_with fail
    go_ret2
    exact ⟨rfl, b1⟩

end Go.Proofs.Ythjbdcoklgnnlab

/-! ### PowPlain -/
namespace Go.Proofs.Ythjbdcoklgnnlab
set_option linter.unusedVariables false
set_option linter.unusedSimpArgs false
open Go.RowKit

def pow (x : ByteArray) (n : Nat) : ByteArray := ⟨(Lib.repeatL x.data.toList n).toArray⟩
theorem pow_zero (x : ByteArray) : pow x 0 = ⟨#[]⟩ := rfl
theorem pow_empty (n : Nat) : pow ⟨#[]⟩ n = ⟨#[]⟩ := by
  show (⟨(Lib.repeatL [] n).toArray⟩ : ByteArray) = _
  rw [Lib.repeatL_nil]
theorem pow_succ (x : ByteArray) (n : Nat) : pow x n ++ x = pow x (n + 1) := by
  apply ByteArray.ext
  rw [ByteArray.data_append]
  show (Lib.repeatL x.data.toList n).toArray ++ x.data = (Lib.repeatL x.data.toList (n + 1)).toArray
  rw [Lib.repeatL_add, Lib.repeatL_one]
  simp
theorem pow_size (x : ByteArray) (n : Nat) : (pow x n).size = x.size * n := by
  show (Lib.repeatL x.data.toList n).toArray.size = x.data.size * n
  rw [List.size_toArray, Lib.repeatL_length, Nat.mul_comm]
  rfl
def powR (x : ByteArray) (k : Int) : ByteArray × Int := if ¬ IsW x then (tE, 1) else if k < 0 ∨ 1000 < k then (tE, 2) else if 60 < (x.size : Int) * k then (tE, 3) else (pow x k.toNat, 0)
theorem powR_bad {x : ByteArray} {k : Int} (h : ¬ IsW x) : powR x k = (⟨#[]⟩, 1) := if_pos h
theorem powR_out {x : ByteArray} {k : Int} (h : IsW x) (hk : k < 0 ∨ 1000 < k) : powR x k = (⟨#[]⟩, 2) := by unfold powR; rw [if_neg (not_not_intro h), if_pos hk]; rfl
theorem powR_long {x : ByteArray} {k : Nat} (h : IsW x) (hk : k ≤ 1000) (hl : 60 < x.size * k) : powR x (k : Int) = (⟨#[]⟩, 3) := by
  have h2 : (60 : Int) < (x.size : Int) * k := by have : ((x.size * k : Nat) : Int) = (x.size : Int) * k := Int.natCast_mul _ _; omega
  unfold powR; rw [if_neg (not_not_intro h), if_neg (by omega), if_pos h2]; rfl
theorem powR_ok {x : ByteArray} {k : Nat} (h : IsW x) (hk : k ≤ 1000) (hl : x.size * k ≤ 60) : powR x (k : Int) = (pow x k, 0) := by
  have h2 : ¬ (60 : Int) < (x.size : Int) * k := by have : ((x.size * k : Nat) : Int) = (x.size : Int) * k := Int.natCast_mul _ _; omega
  unfold powR; rw [if_neg (not_not_intro h), if_neg (by omega), if_neg h2]; rfl

end Go.Proofs.Ythjbdcoklgnnlab

/-! ### TurnMap -/
namespace Go.Proofs.Ythjbdcoklgnnlab
set_option linter.unusedVariables false
set_option linter.unusedSimpArgs false
open Go.RowKit Go.Maps Go.Sort

def keysT (x : ByteArray) (pre : List Nat) : List Lit := pre.map fun i => Lit.string (turned x i).data.toList
def setT (x : ByteArray) (pre : List Nat) : DataW Unit := setOf (.lit (.bool true)) (keysT x pre)
theorem setT_snoc (x : ByteArray) (pre : List Nat) (i : Nat) : setT x (pre ++ [i]) = (setT x pre).put (.string (turned x i).data.toList) (.lit (.bool true)) := by
  unfold setT keysT
  rw [List.map_append]
  exact setOf_snoc _ _ _
theorem keysT_lit (x : ByteArray) (pre : List Nat) : ∀ z ∈ keysT x pre, WideAt.IsKeyLit z := by
  intro z hz
  obtain ⟨i, _, rfl⟩ := List.mem_map.1 hz
  trivial
theorem has_setT (x : ByteArray) (N : Nat) (z : List UInt8) : has (setT x (List.range N)) (.string z) = true ↔ ∃ i, i < N ∧ z = bl (turned x i) := by
  unfold setT
  rw [has_setOf _ _ _ (keysT_lit _ _), List.any_eq_true]
  constructor
  · rintro ⟨l, hl, he⟩
    obtain ⟨i, hi, rfl⟩ := List.mem_map.1 hl
    refine ⟨i, List.mem_range.1 hi, ?_⟩
    have := (WideAt.sameKey_iff (show WideAt.IsKeyLit (.string z) from trivial)).1 he
    cases this
    rfl
  · rintro ⟨i, hi, rfl⟩
    exact ⟨_, List.mem_map.2 ⟨i, List.mem_range.2 hi, rfl⟩, WideAt.sameKey_self trivial⟩

/-- The different turned words, once each. -/
noncomputable def rotsU (x : ByteArray) : List (List UInt8) := if x.size = 0 then [[]] else (List.range (rl (bl x))).map (rotL (bl x))
noncomputable def countU (x : ByteArray) : Nat := if x.size = 0 then 1 else rl (bl x)
theorem rotsU_len (x : ByteArray) : (rotsU x).length = countU x := by unfold rotsU countU; split <;> simp
theorem rotsU_nodup (x : ByteArray) : (rotsU x).Nodup := by
  unfold rotsU
  split
  · simp
  · next h => exact rots_nodup (bl_ne (by omega))
theorem rotsU_mem (x : ByteArray) (z : List UInt8) : z ∈ rotsU x ↔ ∃ i, i < max 1 x.size ∧ z = bl (turned x i) := by
  unfold rotsU
  by_cases h : x.size = 0
  · rw [if_pos h, List.mem_singleton]
    constructor
    · rintro rfl
      exact ⟨0, by omega, by rw [turned_zero, size_zero h]⟩
    · rintro ⟨i, hi, rfl⟩
      rw [show i = 0 by omega, turned_zero, size_zero h]
  · rw [if_neg h]
    have hne := bl_ne (x := x) (by omega)
    constructor
    · intro hz
      obtain ⟨k, hk, rfl⟩ := rots_of hne hz
      rw [bl_len] at hk
      exact ⟨k, by omega, (bl_turned x k).symm⟩
    · rintro ⟨i, hi, rfl⟩
      rw [bl_turned]
      exact rots_mem hne i (by rw [bl_len]; omega)
theorem countU_le (x : ByteArray) (h : x.size ≤ 60) : countU x ≤ 60 := by
  unfold countU
  split
  · omega
  · next h0 => have := rl_le (bl_ne (x := x) (by omega)); rw [bl_len] at this; omega

theorem setT_size {P : Program} {k : TypeId} {R : Value → Option (DataW Unit × List MemPlace)} {w : World} {b n : Nat} (x : ByteArray) (hown : w.ownsMap P k R b n (setT x (List.range (max 1 x.size)))) (K : Keyed P k) (hk : P.underlying k = some .string) : Maps.size (setT x (List.range (max 1 x.size))) = countU x := by
  obtain ⟨es, hD, hpw, _⟩ := hown.entries K
  obtain ⟨es', hD', hko⟩ := hown.keysOf
  obtain rfl : es = es' := by rw [hD] at hD'; simpa using hD'
  have hh := fun z => has_setT x (max 1 x.size) z
  rw [hD] at hh ⊢
  have hp := perm_strKeys hpw (fun p hp => by obtain ⟨v, hv⟩ := hko p hp; obtain ⟨x, _, hx, _⟩ := Maps.keyOf_str hk hv; exact ⟨x, hx⟩) (rotsU_nodup x) (fun z => by rw [hh z]; exact rotsU_mem x z)
  have h1 := hp.length_eq
  rw [rotsU_len] at h1
  have h3 : (strKeys (DataW.map es)).length = es.length := by simp [strKeys]
  have h4 : Maps.size (DataW.map es) = es.length := rfl
  omega

end Go.Proofs.Ythjbdcoklgnnlab

/-! ### FnPerPlain -/
namespace Go.Proofs.Ythjbdcoklgnnlab
set_option linter.unusedVariables false
set_option linter.unusedSimpArgs false
open Go.RowKit

theorem IsW.extract {x : ByteArray} (h : IsW x) (a b : Nat) : IsW (x.extract a b) := by
  have h1 := h.size
  refine ⟨by simp; omega, fun i hi => ?_⟩
  have hi2 : i < b - a ∧ a + i < x.size := by simp at hi; omega
  have e : (x.extract a b)[i]'hi = x[a + i]'hi2.2 := by simp [ByteArray.getElem_extract]
  rw [e]
  exact h.2 _ _

theorem repeat_take {l : List UInt8} {d : Nat} (hp : Per l d) : ∀ k, d * k ≤ l.length → Lib.repeatL (l.take d) k = l.take (d * k)
  | 0, _ => by simp [Lib.repeatL]
  | k + 1, h => by
    rw [Nat.mul_succ] at h
    rw [Lib.repeatL_add, Lib.repeatL_one, repeat_take hp k (by omega), Nat.mul_succ]
    apply List.ext_getElem?
    intro i
    by_cases h1 : i < d * k
    · rw [List.getElem?_append_left (by rw [List.length_take]; omega), List.getElem?_take_of_lt h1, List.getElem?_take_of_lt (by omega)]
    · rw [List.getElem?_append_right (by rw [List.length_take]; omega), List.length_take, Nat.min_eq_left (by omega)]
      by_cases h2 : i < d * k + d
      · rw [List.getElem?_take_of_lt (by omega), List.getElem?_take_of_lt h2]
        have := per_mul hp k (i - d * k) (by rw [Nat.mul_comm k d]; omega)
        rw [this, Nat.mul_comm k d]
        congr 1
        omega
      · rw [List.getElem?_eq_none (by rw [List.length_take]; omega), List.getElem?_eq_none (by rw [List.length_take]; omega)]

theorem root_power {x : ByteArray} (h : IsW x) (h0 : 0 < x.size) : powR (x.extract 0 (rl (bl x))) ((x.size / rl (bl x) : Nat) : Int) = (x, 0) := by
  have hne := bl_ne h0
  have r0 := rl_pos hne
  have r1 := rl_le hne
  have hd := rl_dvd hne
  have hp := rl_per hne
  rw [bl_len] at r1 hd
  have h60 := h.size
  have hk : x.size / rl (bl x) ≤ x.size := Nat.div_le_self _ _
  have hmul : rl (bl x) * (x.size / rl (bl x)) = x.size := Nat.mul_div_cancel' hd
  have hs : (x.extract 0 (rl (bl x))).size = rl (bl x) := by simp; omega
  rw [powR_ok (h.extract _ _) (by omega) (by rw [hs, hmul]; exact h60)]
  congr 1
  apply bl_inj
  show (Lib.repeatL (x.extract 0 (rl (bl x))).data.toList (x.size / rl (bl x))).toArray.toList = _
  rw [show (x.extract 0 (rl (bl x))).data.toList = (bl x).take (rl (bl x)) from bl_take x _]
  rw [repeat_take hp _ (by rw [bl_len, hmul]; exact Nat.le_refl _), hmul, List.take_of_length_le (by rw [bl_len]; exact Nat.le_refl _)]

theorem ltF_inv (x : ByteArray) : ∀ (pre : List Nat) (p : ByteArray × Nat), p.1 = turned x p.2 → (pre.foldl (ltS x) p).1 = turned x (pre.foldl (ltS x) p).2 ∧ ((pre.foldl (ltS x) p).2 = p.2 ∨ (pre.foldl (ltS x) p).2 ∈ pre)
  | [], p, h => ⟨h, .inl rfl⟩
  | k :: pre, p, h => by
    rw [List.foldl_cons]
    have h2 : (ltS x p k).1 = turned x (ltS x p k).2 ∧ ((ltS x p k).2 = p.2 ∨ (ltS x p k).2 = k) := by
      unfold ltS
      split
      · exact ⟨rfl, .inr rfl⟩
      · exact ⟨h, .inl rfl⟩
    obtain ⟨i1, i2⟩ := ltF_inv x pre (ltS x p k) h2.1
    refine ⟨i1, ?_⟩
    rcases i2 with i2 | i2
    · rw [i2]
      rcases h2.2 with h3 | h3
      · exact .inl h3
      · right; rw [h3]; exact List.mem_cons_self
    · exact .inr (List.mem_cons_of_mem _ i2)
theorem least_turn {x : ByteArray} (h : IsW x) : turnR x ((ltF x (List.range (max 1 x.size))).2 : Int) = ((ltF x (List.range (max 1 x.size))).1, 0) := by
  obtain ⟨i1, i2⟩ := ltF_inv x (List.range (max 1 x.size)) (x, 0) (turned_zero x).symm
  have hle : (ltF x (List.range (max 1 x.size))).2 ≤ x.size := by
    rcases i2 with i2 | i2
    · show (List.foldl (ltS x) (x, 0) (List.range (max 1 x.size))).2 ≤ _
      rw [i2]; exact Nat.zero_le _
    · have := List.mem_range.1 i2
      show (List.foldl (ltS x) (x, 0) (List.range (max 1 x.size))).2 ≤ _
      omega
  rw [turnR_ok h hle]
  congr 1
  exact i1.symm

theorem bords_pers_len (l : List UInt8) : (bordsR l l.length).length = (persR l l.length).length := by rw [bords_eq]; simp
theorem bords_pers_get (l : List UInt8) (i : Nat) (h : i < (persR l l.length).length) : (persR l l.length)[i]'h + (bordsR l l.length)[(bordsR l l.length).length - 1 - i]'(by rw [bords_pers_len]; omega) = l.length := by
  have e := bords_eq l
  have h2 : (bordsR l l.length)[(bordsR l l.length).length - 1 - i]? = some ((l.length : Int) - (persR l l.length)[i]'h) := by
    rw [bords_pers_len, e, List.getElem?_map, List.getElem?_reverse (by omega), show (persR l l.length).length - 1 - ((persR l l.length).length - 1 - i) = i by omega, List.getElem?_eq_getElem h]
    rfl
  rw [List.getElem?_eq_getElem (by rw [bords_pers_len]; omega)] at h2
  have := Option.some.inj h2
  omega
theorem exp_cross (n p : Nat) (h : 0 < n) : ((n / Nat.gcd n p : Nat) : Int) * (p : Int) = ((p / Nat.gcd n p : Nat) : Int) * (n : Int) := by
  have h1 := Nat.div_mul_cancel (Nat.gcd_dvd_left n p)
  have h2 := Nat.div_mul_cancel (Nat.gcd_dvd_right n p)
  have key : ∀ m q a b g : Nat, a * g = m → b * g = q → a * q = b * m := by
    rintro m q a b g rfl rfl
    exact Nat.mul_left_comm a b g
  have := key n p _ _ _ h1 h2
  rw [← Int.natCast_mul, ← Int.natCast_mul, this]

end Go.Proofs.Ythjbdcoklgnnlab

/-! ### Clo -/
namespace Go.Proofs.Ythjbdcoklgnnlab
set_option linter.unusedVariables false
set_option linter.unusedSimpArgs false
open Go.RowKit

/-- Letters alone, of whatever number. -/
def IsL (x : ByteArray) : Prop := ∀ i (h : i < x.size), 97 ≤ (x[i]'h).toNat ∧ (x[i]'h).toNat ≤ 101
theorem IsL.word {x : ByteArray} (h : IsL x) (hs : x.size ≤ 60) : IsW x := ⟨hs, h⟩
theorem IsW.lets {x : ByteArray} (h : IsW x) : IsL x := h.2
theorem clo_long (x : ByteArray) (a : Nat) (ha : x.size - endP (bl x) = a) : (clo x).size = x.size + a := by rw [clo_size, ha]

set_option maxRecDepth 100000 in
set_option maxHeartbeats 1000000 in
theorem closeWord_ok (x : ByteArray) (w : World) (h : IsL x) (hx : x.size ≤ 61) (hc : ¬ 60 < (clo x).size) :
    Calls Try.prog 140 #[.string x] w fun e w' => e = .returned (.tuple #[.string (clo x), .int .i64 0]) ∧ Below w.heap.size w w' := by
  have hz := endP_le (bl x)
  rw [bl_len] at hz
  have CP := Lib.hid fun w => palAtEnd_any x w (by omega)
  have hcs := clo_size x
  have HW : Hid (IsW (x.extract 0 (x.size - endP (bl x)))) := Lib.hid ((h.word (by omega)).extract _ _)
  have HC : Hid (clo x = x ++ rev (x.extract 0 (x.size - endP (bl x)))) := Lib.hid rfl
  clear h
  generalize clo x = c at *
  generalize endP (bl x) = z at *
  have hsl := fun W => slice_to x ((x.size : Int) - (z : Int)) (x.size - z) (by omega) (by omega) W
  have zs : (rev (x.extract 0 (x.size - z))).size = x.size - z := by rw [rev_size]; simp
  have CR : Hid (∀ w, Calls Try.prog 73 #[.string (x.extract 0 (x.size - z))] w fun e w' => e = .returned (.tuple #[.string (rev (x.extract 0 (x.size - z))), .int .i64 0]) ∧ Below w.heap.size w w') := Lib.hid fun w => by
    have := impl_ReverseOf (x.extract 0 (x.size - z)) w (by unfold maxLen; simp; omega)
    rwa [revR_ok HW.out] at this
  clear HW
  generalize x.extract 0 (x.size - z) = y at *
  generalize rev y = r at *
  have hsum : ∀ W, (Op.stringOp .add x r).run Try.prog W = .ok (.string c) W := fun W => by rw [HC.out]; exact run_string_add_sum W _ _ (by omega)
  have hcz : c.size ≤ 281474976710656 := by omega
  go_enter Try.func140, Try.ntmps140
  go_wp2_with fail
  refine (CP.out _).mono ?_
  rintro e w1 ⟨rfl, b1⟩
  have hlim : ¬ (60 : Int) < (x.size : Int) + ((x.size : Int) - (z : Int)) := by omega
  go_wp2_with fail
  refine (CR.out _).mono ?_
  rintro e w2 ⟨rfl, b2⟩
  go_wp2_with (go_at_call 105; refine (strings_Clone _ _ hcz).mono ?_; rintro e w3 ⟨rfl, b3⟩)
  go_ret2
  exact ⟨rfl, (b1.then b2).then b3⟩

set_option maxRecDepth 100000 in
set_option maxHeartbeats 1000000 in
theorem closeWord_long (x : ByteArray) (w : World) (hx : x.size ≤ 61) (hc : 60 < (clo x).size) :
    Calls Try.prog 140 #[.string x] w fun e w' => e = .returned (.tuple #[.string ⟨#[]⟩, .int .i64 3]) ∧ Below w.heap.size w w' := by
  have hz := endP_le (bl x)
  rw [bl_len] at hz
  have CP := Lib.hid fun w => palAtEnd_any x w (by omega)
  have hcs := clo_size x
  generalize clo x = c at *
  generalize endP (bl x) = z at *
  go_enter Try.func140, Try.ntmps140
  go_wp2_with fail
  refine (CP.out _).mono ?_
  rintro e w1 ⟨rfl, b1⟩
  have hlim : (60 : Int) < (x.size : Int) + ((x.size : Int) - (z : Int)) := by omega
  go_wp2_with fail
  go_ret2
  exact ⟨rfl, b1⟩

set_option maxRecDepth 100000 in
set_option maxHeartbeats 1000000 in
theorem impl_ClosureOf (x : ByteArray) (w : World) (sx : x.size ≤ maxLen) :
    Calls Try.prog 78 #[.string x] w fun e w' => e = .returned (.tuple #[.string (cloR x).1, .int .i64 (cloR x).2]) ∧ Below w.heap.size w w' := by
  by_cases h : IsW x
  · have h1 := h.size
    by_cases hc : 60 < (clo x).size
    · rw [cloR_long h hc]
      have CL := Lib.hid fun w => closeWord_long x w (by omega) hc
      have H := Lib.hid h
      clear h hc
      go_enter Try.func78, Try.ntmps78
      go_wp2_with fail
      refine (isWord_yes x _ H.out).mono ?_
      rintro e w1 ⟨rfl, b1⟩
      go_wp2_with fail
      refine (CL.out _).mono ?_
      rintro e w2 ⟨rfl, b2⟩
      go_wp2_with fail
      go_ret2
      exact ⟨rfl, b1.then b2⟩
    · rw [cloR_ok h hc]
      have CL := Lib.hid fun w => closeWord_ok x w h.lets (by omega) hc
      have H := Lib.hid h
      clear h hc
      generalize clo x = c at *
      go_enter Try.func78, Try.ntmps78
      go_wp2_with fail
      refine (isWord_yes x _ H.out).mono ?_
      rintro e w1 ⟨rfl, b1⟩
      go_wp2_with fail
      refine (CL.out _).mono ?_
      rintro e w2 ⟨rfl, b2⟩
      go_wp2_with fail
      go_ret2
      exact ⟨rfl, b1.then b2⟩
  · rw [cloR_bad h]
    have H := Lib.hid h
    clear h
    go_enter Try.func78, Try.ntmps78
    go_wp2_with fail
    refine (isWord_not x _ sx H.out).mono ?_
    rintro e w1 ⟨rfl, b1⟩
    go_wp2_with fail
    go_ret2
    exact ⟨rfl, b1⟩

/-! ### The model. -/
theorem clo_nil {x : ByteArray} (h : x.size = 0) : clo x = ⟨#[]⟩ := by
  refine size_zero ?_
  rw [clo_size]; omega

set_option maxRecDepth 100000 in
set_option maxHeartbeats 1000000 in
theorem l04Closure_any (x : ByteArray) (w : World) (hx : x.size ≤ 61) :
    Calls Try.prog 143 #[.string x] w fun e w' => e = .returned (.string (clo x)) ∧ Below w.heap.size w w' := by
  by_cases h0 : x.size = 0
  · rw [clo_nil h0]
    have hq := teq_nil h0
    go_enter Try.func143, Try.ntmps143
    go_wp2_with fail
    go_ret
    exact ⟨rfl, Below.refl _ _⟩
  · have hq := teq_not_nil h0
    have hz := endP_le (bl x)
    rw [bl_len] at hz
    have hz1 := endP_pos (bl x) (bl_ne (by omega))
    have CP := Lib.hid fun w => l04End_any x w (by omega)
    have hcs := clo_size x
    have HC : Hid (clo x = x ++ rev (x.extract 0 (x.size - endP (bl x)))) := Lib.hid rfl
    generalize clo x = c at *
    generalize endP (bl x) = z at *
    have hsl := fun W => slice_to x ((x.size : Int) - (z : Int)) (x.size - z) (by omega) (by omega) W
    have CR := Lib.hid fun w => l01Reversed_any (x.extract 0 (x.size - z)) w (by simp; omega)
    have zs : (rev (x.extract 0 (x.size - z))).size = x.size - z := by rw [rev_size]; simp
    generalize x.extract 0 (x.size - z) = y at *
    generalize rev y = r at *
    have hsum : ∀ W, (Op.stringOp .add x r).run Try.prog W = .ok (.string c) W := fun W => by rw [HC.out]; exact run_string_add_sum W _ _ (by omega)
    go_enter Try.func143, Try.ntmps143
    go_wp2_with fail
    refine (CP.out _).mono ?_
    rintro e w1 ⟨rfl, b1⟩
    go_wp2_with fail
    refine (CR.out _).mono ?_
    rintro e w2 ⟨rfl, b2⟩
    go_wp2_with fail
    go_ret
    exact ⟨rfl, b1.then b2⟩

set_option maxRecDepth 100000 in
set_option maxHeartbeats 1000000 in
theorem spec_ClosureOf (x : ByteArray) (w : World) (sx : x.size ≤ maxLen) :
    Calls Try.prog 82 #[.string x] w fun e w' => e = .returned (.tuple #[.string (cloR x).1, .int .i64 (cloR x).2]) ∧ Below w.heap.size w w' := by
  by_cases h : IsW x
  · have h1 := h.size
    have CL := Lib.hid fun w => l04Closure_any x w (by omega)
    by_cases hc : 60 < (clo x).size
    · rw [cloR_long h hc]
      have H := Lib.hid h
      clear h
      generalize clo x = c at *
      go_enter Try.func82, Try.ntmps82
      go_wp2_with fail
      refine (l01Is_yes x _ H.out).mono ?_
      rintro e w1 ⟨rfl, b1⟩
      go_wp2_with fail
      refine (CL.out _).mono ?_
      rintro e w2 ⟨rfl, b2⟩
      go_wp2_with fail
      go_ret2
      exact ⟨rfl, b1.then b2⟩
    · rw [cloR_ok h hc]
      have H := Lib.hid h
      clear h
      generalize clo x = c at *
      go_enter Try.func82, Try.ntmps82
      go_wp2_with fail
      refine (l01Is_yes x _ H.out).mono ?_
      rintro e w1 ⟨rfl, b1⟩
      go_wp2_with fail
      refine (CL.out _).mono ?_
      rintro e w2 ⟨rfl, b2⟩
      go_wp2_with fail
      go_ret2
      exact ⟨rfl, b1.then b2⟩
  · rw [cloR_bad h]
    have H := Lib.hid h
    clear h
    go_enter Try.func82, Try.ntmps82
    go_wp2_with fail
    refine (l01Is_no x _ sx H.out).mono ?_
    rintro e w1 ⟨rfl, b1⟩
    go_wp2_with fail
    go_ret2
    exact ⟨rfl, b1⟩

end Go.Proofs.Ythjbdcoklgnnlab

/-! ### Draw04 -/
namespace Go.Proofs.Ythjbdcoklgnnlab
set_option linter.unusedVariables false
set_option linter.unusedSimpArgs false
open Go.RowKit

def OneW (w : World) (e : Ending) (w' : World) : Prop := ∃ x : ByteArray, e = .returned (.string x) ∧ x.size ≤ 1000 ∧ Below w.heap.size w w'

set_option maxRecDepth 100000 in
set_option maxHeartbeats 2000000 in
theorem l04Draw_any (w0 W : World) (b : Nat) (hS : Src w0 W b) (hB : Below w0.heap.size w0 W) :
    Calls Try.prog 124 #[.pointer (some ⟨b, 0, none⟩)] W (DrawnT 1000 w0 W b) := by
  have HB0 := hS.ge
  have CN := Lib.hid (l01Next_i w0 W b 4 hS hB (by omega) (by omega))
  clear hS
  go_enter Try.func124, Try.ntmps124
  go_wp2_with fail
  refine CN.out.mono ?_
  rintro e W1 ⟨v, rfl, v0, v1, s1, g1⟩
  have hB1 := below_src hB HB0 g1
  by_cases h0 : v = 0
  · subst h0
    have CK := Lib.hid (l01Next_i w0 W1 b 14 s1 hB1 (by omega) (by omega))
    go_wp2_with fail
    refine CK.out.mono ?_
    rintro e W2 ⟨k, rfl, k0, k1, s2, g2⟩
    have hB2 := below_src hB1 HB0 g2
    have hbl2 := s2.lt
    go_wp2_with fail
    refine (l01Pick_any w0 _ b _ [2, 2, 3] (s2.below (Below.new _ _)) (hB2.alloc hB2.size _) (by simp) (by omega) (by decide) (by decide) (cells_new_ints W2 [2, 2, 3] _)).mono ?_
    rintro e W3 ⟨z, rfl, hz, s3, g3⟩
    have hz2 : 1 ≤ z ∧ z ≤ 5 := by simp at hz; omega
    have hB3 := below_src (hB2.alloc hB2.size _) HB0 g3
    have G3 := grown_trans (grown_trans g1 g2) (grown_trans (grown_of_below (Below.new W2 _) (some b)) g3)
    clear hz
    go_wp2_with fail
    refine (l01DrawOf_any w0 _ b k z s3 hB3 (by omega) k0 hz2.1 hz2.2).mono ?_
    rintro e W4 ⟨u, rfl, hu, s4, g4⟩
    have hB4 := below_src hB3 HB0 g4
    have G4 := grown_trans G3 g4
    have hus : u.size ≤ 13 := by omega
    clear hu
    go_wp2_with fail
    refine (l01Reversed_any u _ (by omega)).mono ?_
    rintro e W5 ⟨rfl, b5⟩
    have hrv : (rev u).size = u.size := rev_size u
    have s5 := s4.below b5
    have hB5 := hB4.then b5
    have G5 := grown_trans G4 (grown_of_below b5 (some b))
    have hsum : ∀ W, (Op.stringOp .add u (rev u)).run Try.prog W = .ok (.string (u ++ rev u)) W := fun W => run_string_add_sum W _ _ (by omega)
    have y1 : (u ++ rev u).size = u.size + (rev u).size := by rw [ByteArray.size_append]
    have CB := Lib.hid (l01Bad_any w0 W5 b (u ++ rev u) s5 hB5 (by omega))
    generalize u ++ rev u = o1 at *
    go_wp2_with fail
    refine CB.out.mono ?_
    rintro e W6 ⟨y, rfl, hy, s6, g6⟩
    go_wp2_with fail
    go_ret
    exact ⟨y, rfl, by omega, s6, grown_trans G5 g6⟩
  · by_cases h1 : v = 1
    · subst h1
      clear h0
      have CK := Lib.hid (l01Next_i w0 W1 b 7 s1 hB1 (by omega) (by omega))
      go_wp2_with fail
      refine CK.out.mono ?_
      rintro e W2 ⟨k, rfl, k0, k1, s2, g2⟩
      have hB2 := below_src hB1 HB0 g2
      have hbl2 := s2.lt
      go_wp2_with fail
      refine (l01Pick_any w0 _ b _ [2, 3] (s2.below (Below.new _ _)) (hB2.alloc hB2.size _) (by simp) (by omega) (by decide) (by decide) (cells_new_ints W2 [2, 3] _)).mono ?_
      rintro e W3 ⟨z, rfl, hz, s3, g3⟩
      have hz2 : 1 ≤ z ∧ z ≤ 5 := by simp at hz; omega
      have hB3 := below_src (hB2.alloc hB2.size _) HB0 g3
      have G3 := grown_trans (grown_trans g1 g2) (grown_trans (grown_of_below (Below.new W2 _) (some b)) g3)
      clear hz
      go_wp2_with fail
      refine (l01DrawOf_any w0 _ b k z s3 hB3 (by omega) k0 hz2.1 hz2.2).mono ?_
      rintro e W4 ⟨u, rfl, hu, s4, g4⟩
      have hB4 := below_src hB3 HB0 g4
      have G4 := grown_trans G3 g4
      have hus : u.size ≤ 6 := by omega
      clear hu G3 hB3 s3 g3 s2 hB2 g4
      go_wp2
      go_loopg [5, 6] u.size (fun g s i wr => ∃ (o : ByteArray) (j : Nat), j + g = u.size ∧ s = .string o ∧ i = .int .i64 (j : Int) ∧ o.size ≤ 42 ∧ Src w0 wr b ∧ Below w0.heap.size w0 wr ∧ W.grownBy wr (some b))
      case atStart => exact ⟨⟨#[]⟩, 0, by omega, rfl, rfl, by decide, s4, hB4, G4⟩
      case round =>
        clear s4 hB4 G4
        obtain ⟨o, j, hj, rfl, rfl, ho, s4, hB4, G4⟩ := hrel
        by_cases hp : j < u.size ∧ o.size < 20
        · obtain ⟨g, rfl⟩ : ∃ g, gk = g + 1 := ⟨gk - 1, by omega⟩
          have hji : (j : Int) < (u.size : Int) := by omega
          have hoi : (o.size : Int) < 20 := by omega
          have hsl : ∀ W, (Instr.slice 9 (.string u) (some (.int .i64 (j : Int))) (some (.int .i64 ((j : Int) + 1))) none).run Try.prog W = .ok (.string (u.extract j (j + 1))) W := fun W => by
            have := slice_mid u j 1 (by omega) W
            simpa using this
          have hes : (u.extract j (j + 1)).size = 1 := by simp; omega
          generalize u.extract j (j + 1) = y at *
          have hsum : ∀ W, (Op.stringOp .add o y).run Try.prog W = .ok (.string (o ++ y)) W := fun W => run_string_add_sum W _ _ (by omega)
          have y1 : (o ++ y).size = o.size + y.size := by rw [ByteArray.size_append]
          generalize o ++ y = q at *
          have hcz : (clo q).size ≤ 42 := by rw [clo_size]; omega
          have CC := Lib.hid fun w => l04Closure_any q w (by omega)
          generalize clo q = c at *
          go_wp2_with (go_at_call 143; refine (CC.out _).mono ?_; rintro e w9 ⟨rfl, b9⟩)
          go_roundg g
          case measure => omega
          case rel => exact ⟨c, j + 1, by omega, rfl, by go_num, hcz, s4.below b9, hB4.then b9, grown_trans G4 (grown_of_below b9 (some b))⟩
        · have CB := Lib.hid (l01Bad_any w0 wr b o s4 hB4 (by omega))
          by_cases hj2 : j < u.size
          · have hji : (j : Int) < (u.size : Int) := by omega
            have hoi : ¬ (o.size : Int) < 20 := by omega
            go_wp2_with fail
            refine CB.out.mono ?_
            rintro e W6 ⟨y, rfl, hy, s6, g6⟩
            go_wp2_with fail
            go_ret
            exact ⟨y, rfl, by omega, s6, grown_trans G4 g6⟩
          · have hji : ¬ (j : Int) < (u.size : Int) := by omega
            go_wp2_with fail
            refine CB.out.mono ?_
            rintro e W6 ⟨y, rfl, hy, s6, g6⟩
            go_wp2_with fail
            go_ret
            exact ⟨y, rfl, by omega, s6, grown_trans G4 g6⟩
    · have CB := Lib.hid (l01Spoil_any w0 W1 b s1 hB1)
      go_wp2_with fail
      refine CB.out.mono ?_
      rintro e W6 ⟨y, rfl, hy, s6, g6⟩
      go_wp2_with fail
      go_ret
      exact ⟨y, rfl, by omega, s6, grown_trans g1 g6⟩

set_option maxRecDepth 100000 in
theorem DrawPalindromesOf_any (a : Option Addr) (len cap : Nat) (zs : List Int) (w : World) (h : IsRow .u8 w a len cap zs) (hl : len ≤ 1048576) :
    Calls Try.prog 54 #[.slice a len cap] w (OneW w) := by
  have CF := Lib.hid (l01From_any a len cap zs w h hl)
  clear h
  go_enter Try.func54, Try.ntmps54
  go_wp2_with fail
  refine CF.out.mono ?_
  rintro e W0 ⟨rfl, s0, hB0⟩
  have HB0 := s0.ge
  have CD := Lib.hid (l04Draw_any w W0 w.heap.size s0 hB0)
  clear CF
  go_wp2_with fail
  refine CD.out.mono ?_
  rintro e W1 ⟨x, rfl, hx, s1, g1⟩
  have hB1 := below_src hB0 HB0 g1
  go_wp2_with fail
  go_ret
  exact ⟨x, rfl, by omega, hB1⟩

set_option maxRecDepth 100000 in
theorem DrawIsPalindrome_any (a : Option Addr) (len cap : Nat) (zs : List Int) (w : World) (h : IsRow .u8 w a len cap zs) (hl : len ≤ 1048576) :
    Calls Try.prog 65 #[.slice a len cap] w (OneW w) := by
  have CF := Lib.hid (l01From_any a len cap zs w h hl)
  clear h
  go_enter Try.func65, Try.ntmps65
  go_wp2_with fail
  refine CF.out.mono ?_
  rintro e W0 ⟨rfl, s0, hB0⟩
  have HB0 := s0.ge
  have CD := Lib.hid (l04Draw_any w W0 w.heap.size s0 hB0)
  clear CF
  go_wp2_with fail
  refine CD.out.mono ?_
  rintro e W1 ⟨x, rfl, hx, s1, g1⟩
  have hB1 := below_src hB0 HB0 g1
  go_wp2_with fail
  go_ret
  exact ⟨x, rfl, by omega, hB1⟩

end Go.Proofs.Ythjbdcoklgnnlab

/-! ### Like -/
namespace Go.Proofs.Ythjbdcoklgnnlab
set_option linter.unusedVariables false
set_option linter.unusedSimpArgs false
open Go.RowKit

set_option maxRecDepth 100000 in
theorem big_no (a : Option Addr) (len cap : Nat) (w : World) (h : len ≤ 4096) :
    Calls Try.prog 17 #[.slice a len cap] w fun e w' => e = .returned (.bool false) ∧ Below w.heap.size w w' := by
  go_enter Try.func17, Try.ntmps17
  go_wp2
  go_ret
  exact ⟨ret_bool (by simp; omega), Below.refl _ _⟩
set_option maxRecDepth 100000 in
theorem big_yes (a : Option Addr) (len cap : Nat) (w : World) (h : 4096 < len) :
    Calls Try.prog 17 #[.slice a len cap] w fun e w' => e = .returned (.bool true) ∧ Below w.heap.size w w' := by
  go_enter Try.func17, Try.ntmps17
  go_wp2
  go_ret
  exact ⟨ret_bool (by simp; omega), Below.refl _ _⟩

set_option maxRecDepth 100000 in
theorem likeInts_yes (B1 B2 : Nat) (v1 v2 : Value) (L : List Int) (w : World) (h1 : OwnI w B1 v1 L) (h2 : OwnI w B2 v2 L) :
    Calls Try.prog 21 #[v1, v2] w fun e w' => e = .returned (.bool true) ∧ Below w.heap.size w w' := by
  by_cases h0 : L = []
  · subst h0
    obtain ⟨a1, c1, rfl⟩ := h1.empty
    obtain ⟨a2, c2, rfl⟩ := h2.empty
    clear h1 h2
    go_enter Try.func21, Try.ntmps21
    go_wp2
    refine wp_loop_rounds 1 ?_
    rw [rounds_succ]
    go_wp2
    go_ret
    exact ⟨rfl, Below.refl _ _⟩
  · have hn : 0 < L.length := List.length_pos_iff.2 h0
    obtain ⟨g1, c1, rfl, _, hg1, hc1, hm, cell1, _⟩ := h1.row hn
    obtain ⟨g2, c2, rfl, _, hg2, hc2, _, cell2, _⟩ := h2.row hn
    unfold maxLen at hm
    have C1 := Lib.hid cell1
    have C2 := Lib.hid cell2
    clear h1 h2 cell1 cell2 h0
    go_enter Try.func21, Try.ntmps21
    go_wp2
    go_loopw [5] (fun i wr => ∃ k : Nat, k ≤ L.length ∧ i = .int .i64 k ∧ Below w.heap.size w wr) (fun i _ => L.length - (intOf i).toNat)
    case atStart => exact ⟨0, Nat.zero_le _, rfl, Below.refl _ _⟩
    case round =>
      obtain ⟨k, hk, rfl, hB⟩ := hrel
      by_cases hp : k < L.length
      · have k1 : wr.cell? ⟨g1, k, none⟩ = some (.int .i64 (L[k]'hp)) := by rw [(bcell hB).1 g1 k hg1]; exact C1.out k hp
        have k2 : wr.cell? ⟨g2, k, none⟩ = some (.int .i64 (L[k]'hp)) := by rw [(bcell hB).1 g2 k hg2]; exact C2.out k hp
        have hpc1 : k < c1 := by omega
        have hpc2 : k < c2 := by omega
        generalize L[k]'hp = z at k1 k2
        go_wp2
        go_quiet (fail)
        go_wp2
        go_roundw
        case rel => exact ⟨k + 1, by omega, by go_num, hB.drewN _⟩
        case measure => simp [intOf]; omega
      · go_wp2
        go_ret
        exact ⟨rfl, hB⟩

end Go.Proofs.Ythjbdcoklgnnlab

/-! ### Like9 -/
namespace Go.Proofs.Ythjbdcoklgnnlab
set_option linter.unusedVariables false
set_option linter.unusedSimpArgs false
open Go.RowKit

set_option maxRecDepth 100000 in
theorem words9_yes (B1 B2 : Nat) (v1 v2 : Value) (L : List ByteArray) (w : World) (h1 : OwnS w B1 v1 L) (h2 : OwnS w B2 v2 L) :
    Calls Try.prog 47 #[v1, v2] w fun e w' => e = .returned (.bool true) ∧ Below w.heap.size w w' := by
  by_cases h0 : L = []
  · subst h0
    obtain ⟨a1, c1, rfl⟩ := h1.empty
    obtain ⟨a2, c2, rfl⟩ := h2.empty
    clear h1 h2
    go_enter Try.func47, Try.ntmps47
    go_wp2
    refine wp_loop_rounds 1 ?_
    rw [rounds_succ]
    go_wp2
    go_ret
    exact ⟨rfl, Below.refl _ _⟩
  · have hn : 0 < L.length := List.length_pos_iff.2 h0
    obtain ⟨g1, c1, rfl, _, hg1, hc1, hm, cell1, _⟩ := h1.row hn
    obtain ⟨g2, c2, rfl, _, hg2, hc2, _, cell2, _⟩ := h2.row hn
    unfold maxLen at hm
    have C1 := Lib.hid cell1
    have C2 := Lib.hid cell2
    clear h1 h2 cell1 cell2 h0
    go_enter Try.func47, Try.ntmps47
    go_wp2
    go_loopw [5] (fun i wr => ∃ k : Nat, k ≤ L.length ∧ i = .int .i64 k ∧ Below w.heap.size w wr) (fun i _ => L.length - (intOf i).toNat)
    case atStart => exact ⟨0, Nat.zero_le _, rfl, Below.refl _ _⟩
    case round =>
      obtain ⟨k, hk, rfl, hB⟩ := hrel
      by_cases hp : k < L.length
      · have k1 : wr.cell? ⟨g1, k, none⟩ = some (.string (L[k]'hp)) := by rw [(bcell hB).1 g1 k hg1]; exact C1.out k hp
        have k2 : wr.cell? ⟨g2, k, none⟩ = some (.string (L[k]'hp)) := by rw [(bcell hB).1 g2 k hg2]; exact C2.out k hp
        have hpc1 : k < c1 := by omega
        have hpc2 : k < c2 := by omega
        generalize L[k]'hp = z at k1 k2
        go_wp2
        go_quiet (fail)
        go_wp2
        go_roundw
        case rel => exact ⟨k + 1, by omega, by go_num, hB.drewN _⟩
        case measure => simp [intOf]; omega
      · go_wp2
        go_ret
        exact ⟨rfl, hB⟩

end Go.Proofs.Ythjbdcoklgnnlab

/-! ### RichPlain -/
namespace Go.Proofs.Ythjbdcoklgnnlab
set_option linter.unusedVariables false
set_option linter.unusedSimpArgs false

/-- A palindrome at a place. -/
def PA (g : Nat → Option UInt8) (i m : Nat) : Prop := ∀ d, d < m → g (i + d) = g (i + m - 1 - d)
/-- The m letters at i are those at j. -/
def SA (g : Nat → Option UInt8) (i j m : Nat) : Prop := ∀ d, d < m → g (i + d) = g (j + d)
/-- The longest palindrome that ends at n has k letters. -/
def LP (g : Nat → Option UInt8) (n k : Nat) : Prop := k ≤ n ∧ PA g (n - k) k ∧ ∀ m, m ≤ n → PA g (n - m) m → m ≤ k
/-- It is not ahead. -/
def NewA (g : Nat → Option UInt8) (n : Nat) : Prop := ∀ k, LP g (n + 1) k → ∀ i, i + k ≤ n → ¬ SA g i (n + 1 - k) k

theorem PA.congr {g h : Nat → Option UInt8} {i m : Nat} (a : PA g i m) (e : ∀ j, j < i + m → h j = g j) : PA h i m := fun d hd => by
  rw [e _ (by omega), e _ (by omega)]; exact a d hd
theorem SA.congr {g h : Nat → Option UInt8} {i j m : Nat} (a : SA g i j m) (e : ∀ t, t < i + m ∨ t < j + m → h t = g t) : SA h i j m := fun d hd => by
  rw [e _ (by omega), e _ (by omega)]; exact a d hd
theorem LP.congr {g h : Nat → Option UInt8} {n k : Nat} (a : LP g n k) (e : ∀ j, j < n → h j = g j) : LP h n k :=
  ⟨a.1, a.2.1.congr fun j hj => e j (by have := a.1; omega), fun m hm hp => a.2.2 m hm (hp.congr fun j hj => (e j (by omega)).symm)⟩
theorem LP.uniq {g : Nat → Option UInt8} {n k k' : Nat} (a : LP g n k) (b : LP g n k') : k = k' := Nat.le_antisymm (b.2.2 k a.1 a.2.1) (a.2.2 k' b.1 b.2.1)
theorem NewA.congr {g h : Nat → Option UInt8} {n : Nat} (a : NewA g n) (e : ∀ j, j < n + 1 → h j = g j) : NewA h n := fun k hk i hi hs =>
  a k (hk.congr fun j hj => (e j hj).symm) i hi (hs.congr fun t ht => (e t (by have := hk.1; omega)).symm)
theorem PA.one (g : Nat → Option UInt8) (i : Nat) : PA g i 1 := fun d hd => by rw [show d = 0 by omega]; congr 1
theorem newA_zero (g : Nat → Option UInt8) : NewA g 0 := fun k hk i hi hs => by
  have := hk.2.2 1 (by omega) (PA.one _ _)
  omega

/-- One letter more, and the closure: what is new stays so. -/
theorem rich_step {g : Nat → Option UInt8} {L m e : Nat} (hpal : PA g 0 L) (hmin : ∀ t, m + 1 ≤ t → t ≤ L → PA g 0 t → t = L) (hL : L + e = 2 * (m + 1)) (he : LP g (m + 1) e) (h1 : 1 ≤ e)
    (hI1 : PA g 0 m) (hI2 : ∀ h : Nat → Option UInt8, (∀ i, i < m → h i = g i) → NewA h m) (hI3 : ∀ n, n < m → NewA g n) :
    (∀ h : Nat → Option UInt8, (∀ i, i < L → h i = g i) → NewA h L) ∧ ∀ n, n < L → NewA g n := by
  have he1 := he.1
  have hNm : NewA g m := hI2 g fun _ _ => rfl
  have pal : ∀ a b, a + b + 1 = L → g a = g b := fun a b hab => by
    have := hpal a (by omega)
    rw [Nat.zero_add, show 0 + L - 1 - a = b by omega] at this
    exact this
  have pal1 : ∀ a b, a + b + 1 = m → g a = g b := fun a b hab => by
    have := hI1 a (by omega)
    rw [Nat.zero_add, show 0 + m - 1 - a = b by omega] at this
    exact this
  refine ⟨fun h hh k hk i hi hs => ?_, fun n hn => ?_⟩
  · have hk1 := hk.1
    have hsp : ∀ a b, a + b + k = 2 * L + 1 → a ≤ L → b ≤ L → h a = h b := fun a b hab ha hb => by
      have := hk.2.1 (a - (L + 1 - k)) (by omega)
      rw [show L + 1 - k + (a - (L + 1 - k)) = a by omega, show L + 1 - k + k - 1 - (a - (L + 1 - k)) = b by omega] at this
      exact this
    have hk0 : 1 ≤ k := hk.2.2 1 (by omega) (PA.one _ _)
    -- the inner part is a palindrome at the beginning
    have inner : 2 ≤ k → k ≤ L + 1 → PA g 0 (k - 2) := fun k2 k3 d hd => by
      rw [Nat.zero_add, show 0 + (k - 2) - 1 - d = k - 3 - d by omega]
      rw [pal d (L - 1 - d) (by omega), ← hh _ (by omega), hsp (L - 1 - d) (L + 2 - k + d) (by omega) (by omega) (by omega), hh _ (by omega)]
      exact pal _ _ (by omega)
    by_cases hxy : h L = g m
    · have hbig : m + 2 ≤ k := hk.2.2 (m + 2) (by omega) fun d hd => by
        rw [show L + 1 - (m + 2) + (m + 2) - 1 - d = L - d by omega]
        by_cases d0 : d = 0
        · subst d0
          rw [Nat.sub_zero, Nat.add_zero, hxy, hh _ (by omega)]
          exact pal _ _ (by omega)
        · by_cases d1 : d = m + 1
          · subst d1
            rw [show L + 1 - (m + 2) + (m + 1) = L by omega, hxy, hh _ (by omega)]
            exact pal _ _ (by omega)
          · rw [hh _ (by omega), hh _ (by omega), pal (L + 1 - (m + 2) + d) (m - d) (by omega), pal (L - d) (d - 1) (by omega)]
            exact pal1 _ _ (by omega)
      have hin := inner (by omega) (by omega)
      by_cases hlong : m + 1 ≤ k - 2
      · have := hmin (k - 2) hlong (by omega) hin
        omega
      · obtain rfl : k = m + 2 := by omega
        have occ : ∀ d, d < m → g (i + 1 + d) = g d := fun d hd => by
          have := hs (d + 1) (by omega)
          rw [show i + (d + 1) = i + 1 + d by omega, hh _ (by omega), hh _ (by omega)] at this
          rw [this, pal (L + 1 - (m + 2) + (d + 1)) (m - 1 - d) (by omega)]
          exact pal1 _ _ (by omega)
        have hsq : ∀ d, d < m → g d = g (i + 1 + m - 1 - d) := fun d hd => by
          rw [pal1 d (m - 1 - d) (by omega), ← occ (m - 1 - d) (by omega)]
          congr 1
          omega
        have := hmin (i + 1 + m) (by omega) (by omega) fun d hd => by
          rw [Nat.zero_add, show 0 + (i + 1 + m) - 1 - d = i + 1 + m - 1 - d by omega]
          by_cases hdm : d < m
          · exact hsq d hdm
          · have := hsq (i + 1 + m - 1 - d) (by omega)
            rw [this]
            congr 1
            omega
        omega
    · -- the letter is another one
      have hR : ∃ R : Nat → Option UInt8, (∀ i, i < m → R i = g i) ∧ R m = h L := ⟨fun i => if i < m then g i else h L, fun i hi => if_pos hi, if_neg (by omega)⟩
      obtain ⟨R, R1, R2⟩ := hR
      have hRQ : ∀ d, d ≤ m → R d = h (L - m + d) := fun d hd => by
        by_cases e : d = m
        · subst e; rw [R2]; congr 1; omega
        · rw [R1 d (by omega), hh _ (by omega), pal (L - m + d) (m - 1 - d) (by omega)]
          exact pal1 _ _ (by omega)
      have hkm : k ≤ m + 1 := by
        refine Nat.le_of_not_lt fun hc => ?_
        have hin := inner (by omega) (by omega)
        have hx : g (k - 2) = h L := by
          rw [← hsp (L + 1 - k) L (by omega) (by omega) (by omega), hh _ (by omega)]
          exact pal _ _ (by omega)
        by_cases h2 : k - 2 = m
        · rw [h2] at hx; exact hxy hx.symm
        · have := hmin (k - 2) (by omega) (by omega) hin
          omega
      have hRk : LP R (m + 1) k := by
        refine ⟨hkm, fun d hd => ?_, fun t ht hp => ?_⟩
        · rw [hRQ _ (by omega), hRQ _ (by omega)]
          exact hsp _ _ (by omega) (by omega) (by omega)
        · refine hk.2.2 t (by omega) fun d hd => ?_
          have := hp d hd
          rw [hRQ _ (by omega), hRQ _ (by omega), show L - m + (m + 1 - t + d) = L + 1 - t + d by omega, show L - m + (m + 1 - t + t - 1 - d) = L + 1 - t + t - 1 - d by omega] at this
          exact this
      have hNR := hI2 R R1
      have low : ∀ j, j + k ≤ m → ¬ SA h j (L + 1 - k) k := fun j hj hsj => hNR k hRk j hj fun d hd => by
        rw [R1 _ (by omega), ← hh _ (by omega), hsj d hd, hRQ _ (by omega)]
        congr 1
        omega
      by_cases c1 : i + k ≤ m
      · exact low i c1 hs
      · by_cases c2 : L ≤ i + m
        · refine low (L - i - k) (by omega) fun d hd => ?_
          rw [hh _ (by omega), pal (L - i - k + d) (i + (k - 1 - d)) (by omega), ← hh _ (by omega), hs (k - 1 - d) (by omega)]
          exact hsp _ _ (by omega) (by omega) (by omega)
        · -- it covers the palindrome in the middle
          have hq : ∀ d, d < e → g (m + 1 - e + d) = h (L + 1 - k + (m + 1 - e - i) + d) := fun d hd => by
            rw [← hh _ (by omega), show m + 1 - e + d = i + (m + 1 - e - i + d) by omega, hs (m + 1 - e - i + d) (by omega)]
            congr 1
            omega
          have hqm : g (m + 1 - e) = g m := by
            have := he.2.1 0 (by omega)
            rw [Nat.add_zero, show m + 1 - e + e - 1 - 0 = m by omega] at this
            exact this
          have hfst : h (L + 1 - k) = h L := hsp _ _ (by omega) (by omega) (by omega)
          by_cases ha : m + 1 - e = i
          · have := hq 0 (by omega)
            rw [show m + 1 - e + 0 = m + 1 - e by omega, show L + 1 - k + (m + 1 - e - i) + 0 = L + 1 - k by omega, hfst, hqm] at this
            exact hxy this.symm
          · by_cases hb : m + 1 - e - i + e = k
            · have := hq (e - 1) (by omega)
              rw [show m + 1 - e + (e - 1) = m by omega, show L + 1 - k + (m + 1 - e - i) + (e - 1) = L by omega] at this
              exact hxy this.symm
            · refine hNm e he (m + 1 - k + (m + 1 - e - i)) (by omega) fun d hd => ?_
              rw [hq d hd, ← R1 _ (by omega), hRQ _ (by omega)]
              congr 1
              omega
  · by_cases c1 : n < m
    · exact hI3 n c1
    · by_cases c2 : n = m
      · subst c2; exact hNm
      · obtain ⟨j, rfl⟩ : ∃ j, n = m + j := ⟨n - m, by omega⟩
        intro k hk i hi hs
        have hk1 := hk.1
        have k1 : e + 2 * j ≤ k := hk.2.2 (e + 2 * j) (by omega) fun d hd => pal _ _ (by omega)
        have k2 : k - 2 * j ≤ e := he.2.2 (k - 2 * j) (by omega) fun d hd => by
          have := hk.2.1 (d + j) (by omega)
          rw [show m + j + 1 - k + (d + j) = m + 1 - (k - 2 * j) + d by omega, show m + j + 1 - k + k - 1 - (d + j) = m + 1 - (k - 2 * j) + (k - 2 * j) - 1 - d by omega] at this
          exact this
        refine hNm e he (i + j) (by omega) fun d hd => ?_
        have := hs (j + d) (by omega)
        rw [show i + (j + d) = i + j + d by omega, show m + j + 1 - k + (j + d) = m + 1 - e + d by omega] at this
        exact this

/-! ### Texts. -/
def at_ (l : List UInt8) (i : Nat) : Option UInt8 := l[i]?
theorem pal_pa (l : List UInt8) (k : Nat) (hk : k ≤ l.length) : palB (l.drop k) = true ↔ PA (at_ l) k (l.length - k) := by
  rw [palB_rev]
  constructor
  · intro h d hd
    have h2 : (l.drop k).reverse[d]? = (l.drop k)[d]? := by rw [h]
    rw [List.getElem?_reverse (by rw [List.length_drop]; exact hd), List.getElem?_drop, List.getElem?_drop, List.length_drop] at h2
    unfold at_
    rw [← h2]
    congr 1
    omega
  · intro h
    apply List.ext_getElem?
    intro i
    by_cases hi : i < l.length - k
    · rw [List.getElem?_reverse (by rw [List.length_drop]; exact hi), List.getElem?_drop, List.getElem?_drop, List.length_drop]
      have := h i hi
      unfold at_ at this
      rw [this]
      congr 1
      omega
    · rw [List.getElem?_eq_none (by rw [List.length_reverse, List.length_drop]; omega), List.getElem?_eq_none (by rw [List.length_drop]; omega)]
theorem endP_lp (l : List UInt8) : LP (at_ l) l.length (endP l) := by
  have h0 := endP_le l
  refine ⟨h0, ?_, fun m hm hp => ?_⟩
  · have := (pal_pa l (l.length - endP l) (by omega)).1 (endP_pal l)
    rwa [show l.length - (l.length - endP l) = endP l by omega] at this
  · have := endP_max l (l.length - m) (by omega) ((pal_pa l (l.length - m) (by omega)).2 (by rwa [show l.length - (l.length - m) = m by omega]))
    omega
theorem pal_pa0 (l : List UInt8) : palB l = true ↔ PA (at_ l) 0 l.length := by
  have := pal_pa l 0 (Nat.zero_le _)
  rwa [List.drop_zero, Nat.sub_zero] at this
theorem pal_take (l : List UInt8) (k : Nat) (hk : k ≤ l.length) : palB (l.take k) = true ↔ PA (at_ l) 0 k := by
  rw [pal_pa0, List.length_take, Nat.min_eq_left hk]
  constructor
  · intro h; exact h.congr fun j hj => by unfold at_; rw [List.getElem?_take_of_lt (by omega)]
  · intro h; exact h.congr fun j hj => by unfold at_; rw [List.getElem?_take_of_lt (by omega)]

/-- The closure, of letters. -/
def cloL (l : List UInt8) : List UInt8 := l ++ (l.take (l.length - endP l)).reverse
theorem cloL_len (l : List UInt8) : (cloL l).length + endP l = 2 * l.length := by
  have := endP_le l
  unfold cloL
  rw [List.length_append, List.length_reverse, List.length_take]
  omega
theorem cloL_pal (l : List UInt8) : palB (cloL l) = true := by
  rw [palB_rev]
  have h1 := palB_rev.1 (endP_pal l)
  unfold cloL
  rw [List.reverse_append, List.reverse_reverse]
  have h2 : l = l.take (l.length - endP l) ++ l.drop (l.length - endP l) := (List.take_append_drop _ _).symm
  generalize l.take (l.length - endP l) = u at *
  generalize l.drop (l.length - endP l) = q at *
  subst h2
  rw [List.reverse_append, h1, List.append_assoc]
theorem cloL_at (l : List UInt8) (i : Nat) (hi : i < l.length) : at_ (cloL l) i = at_ l i := by
  unfold at_ cloL; rw [List.getElem?_append_left hi]
/-- No shorter palindrome begins with the word. -/
theorem cloL_min (l : List UInt8) (t : Nat) (h1 : l.length ≤ t) (h2 : t ≤ (cloL l).length) (h : PA (at_ (cloL l)) 0 t) : t = (cloL l).length := by
  have h3 := cloL_len l
  have h4 := endP_le l
  by_cases h5 : t ≤ 2 * l.length
  · have := (endP_lp l).2.2 (2 * l.length - t) (by omega) fun d hd => by
      have h6 := h (t - l.length + d) (by omega)
      rw [Nat.zero_add, cloL_at l _ (by omega), cloL_at l _ (by omega)] at h6
      rw [show l.length - (2 * l.length - t) + d = t - l.length + d by omega, h6]
      congr 1
      omega
    omega
  · omega

/-- Directed words. -/
inductive Dir : List UInt8 → Prop
  | nil : Dir []
  | step {p : List UInt8} (c : UInt8) : Dir p → Dir (cloL (p ++ [c]))
theorem Dir.rich {p : List UInt8} (h : Dir p) : PA (at_ p) 0 p.length ∧ (∀ f : Nat → Option UInt8, (∀ i, i < p.length → f i = at_ p i) → NewA f p.length) ∧ ∀ n, n < p.length → NewA (at_ p) n := by
  induction h with
  | nil => exact ⟨fun d hd => by simp at hd, fun f _ => newA_zero f, fun n hn => by simp at hn⟩
  | @step p c h ih =>
    obtain ⟨i1, i2, i3⟩ := ih
    have hw : (p ++ [c]).length = p.length + 1 := by simp
    have h3 := cloL_len (p ++ [c])
    rw [hw] at h3
    have hat : ∀ i, i < p.length + 1 → at_ (cloL (p ++ [c])) i = at_ (p ++ [c]) i := fun i hi => cloL_at _ i (by rw [hw]; exact hi)
    have hatp : ∀ i, i < p.length → at_ (cloL (p ++ [c])) i = at_ p i := fun i hi => by
      rw [hat i (by omega)]; unfold at_; rw [List.getElem?_append_left hi]
    have hlp := endP_lp (p ++ [c])
    rw [hw] at hlp
    have h1 := endP_pos (p ++ [c]) (by simp)
    have hmin := cloL_min (p ++ [c])
    rw [hw] at hmin
    have hp := (pal_pa0 _).1 (cloL_pal (p ++ [c]))
    have := rich_step (g := at_ (cloL (p ++ [c]))) (L := (cloL (p ++ [c])).length) (m := p.length) (e := endP (p ++ [c])) hp hmin h3 (hlp.congr hat) h1
      (i1.congr fun j hj => hatp j (by omega)) (fun f hf => i2 f fun i hi => (hf i hi).trans (hatp i hi)) (fun n hn => (i3 n hn).congr fun j hj => hatp j (by omega))
    exact ⟨hp, this.1, this.2⟩

end Go.Proofs.Ythjbdcoklgnnlab

/-! ### Rich2Plain -/
namespace Go.Proofs.Ythjbdcoklgnnlab
set_option linter.unusedVariables false
set_option linter.unusedSimpArgs false

theorem nodup_sub {α : Type} : ∀ (L M : List α), L.Nodup → (∀ z ∈ L, z ∈ M) → L.length ≤ M.length
  | [], _, _, _ => Nat.zero_le _
  | a :: L, M, hd, hs => by
    obtain ⟨h1, h2⟩ := List.nodup_cons.1 hd
    obtain ⟨s, t, rfl⟩ := List.append_of_mem (hs a (List.mem_cons_self ..))
    have := nodup_sub L (s ++ t) h2 fun z hz => by
      have h3 := hs z (List.mem_cons_of_mem _ hz)
      rw [List.mem_append, List.mem_cons] at h3
      rw [List.mem_append]
      rcases h3 with h3 | rfl | h3
      · exact .inl h3
      · exact absurd hz h1
      · exact .inr h3
    simp at this ⊢
    omega
theorem nodup_app {α : Type} {L M : List α} (h : L.Nodup) (k : M.Nodup) (d : ∀ z ∈ L, z ∉ M) : (L ++ M).Nodup := by
  rw [List.nodup_append]
  exact ⟨h, k, fun a ha b hb e => d a ha (e ▸ hb)⟩
theorem asc_nodup {L : List ByteArray} (h : Asc L) : L.Nodup := List.Pairwise.imp (R := wlt) (S := fun a b => a ≠ b) (fun {a b} k e => wlt_irrefl a (by rw [← e] at k; exact k)) h

theorem mem_dfT (T : ByteArray → Bool) (x z : ByteArray) : ∀ N, N ≤ x.size → (z ∈ dfT T x N ↔ (∃ i m, 1 ≤ m ∧ m ≤ N ∧ i + m ≤ x.size ∧ z = x.extract i (i + m)) ∧ T z = true)
  | 0, _ => by
    rw [dfT]
    constructor
    · intro h; cases h
    · rintro ⟨⟨i, m, h1, h2, _⟩, _⟩; omega
  | N + 1, hN => by
    rw [dfT, List.mem_append, mem_dfT T x z N (by omega), List.mem_filter, mem_facK]
    constructor
    · rintro (⟨⟨i, m, h1, h2, h3, h4⟩, ht⟩ | ⟨⟨i, hi, h4⟩, ht⟩)
      · exact ⟨⟨i, m, h1, by omega, h3, h4⟩, ht⟩
      · exact ⟨⟨i, N + 1, by omega, Nat.le_refl _, by omega, h4⟩, ht⟩
    · rintro ⟨⟨i, m, h1, h2, h3, h4⟩, ht⟩
      by_cases e : m = N + 1
      · subst e; exact .inr ⟨⟨i, by omega, h4⟩, ht⟩
      · exact .inl ⟨⟨i, m, h1, by omega, h3, h4⟩, ht⟩
theorem dfT_sizes {T : ByteArray → Bool} {x z : ByteArray} {N : Nat} (hN : N ≤ x.size) (h : z ∈ dfT T x N) : z.size ≤ N := by
  obtain ⟨⟨i, m, h1, h2, h3, rfl⟩, _⟩ := (mem_dfT T x z N hN).1 h
  simp; omega
theorem dfT_nodup (T : ByteArray → Bool) (x : ByteArray) : ∀ N, N ≤ x.size → (dfT T x N).Nodup
  | 0, _ => List.nodup_nil
  | N + 1, hN => by
    rw [dfT]
    refine nodup_app (dfT_nodup T x N (by omega)) ((asc_nodup (facK_asc x _ _)).filter _) fun z h1 h2 => ?_
    have h3 := dfT_sizes (by omega) h1
    have h4 := facK_size (by omega) (List.mem_filter.1 h2).1
    omega

theorem at_ext (x : ByteArray) (i m d : Nat) (h : i + m ≤ x.size) (hd : d < m) : at_ (bl (x.extract i (i + m))) d = at_ (bl x) (i + d) := by
  unfold at_
  rw [bl_extract, List.getElem?_take_of_lt (by omega), List.getElem?_drop]
theorem ext_eq {x : ByteArray} {i j m : Nat} (hi : i + m ≤ x.size) (hj : j + m ≤ x.size) (h : SA (at_ (bl x)) i j m) : x.extract i (i + m) = x.extract j (j + m) := by
  apply bl_inj
  apply List.ext_getElem?
  intro d
  by_cases hd : d < m
  · have h1 := at_ext x i m d hi hd
    have h2 := at_ext x j m d hj hd
    unfold at_ at h1 h2
    rw [h1, h2]
    exact h d hd
  · rw [bl_none _ _ (by simp; omega), bl_none _ _ (by simp; omega)]
theorem ext_sa {x : ByteArray} {i j m : Nat} (hi : i + m ≤ x.size) (hj : j + m ≤ x.size) (h : x.extract i (i + m) = x.extract j (j + m)) : SA (at_ (bl x)) i j m := fun d hd => by
  rw [← at_ext x i m d hi hd, ← at_ext x j m d hj hd, h]
theorem ext_pal (x : ByteArray) (i m : Nat) (h : i + m ≤ x.size) : palB (bl (x.extract i (i + m))) = true ↔ PA (at_ (bl x)) i m := by
  have hs : (bl (x.extract i (i + m))).length = m := by rw [bl_len]; simp; omega
  rw [pal_pa0, hs]
  constructor
  · intro k d hd
    have := k d hd
    rw [Nat.zero_add, at_ext x i m _ h hd, show 0 + m - 1 - d = m - 1 - d by omega, at_ext x i m _ h (by omega)] at this
    rw [this]
    congr 1
    omega
  · intro k d hd
    rw [Nat.zero_add, at_ext x i m _ h hd, show 0 + m - 1 - d = m - 1 - d by omega, at_ext x i m _ h (by omega), k d hd]
    congr 1
    omega
/-- The longest palindrome at the end of the first n letters. -/
def lpN (x : ByteArray) (n : Nat) : Nat := endP ((bl x).take n)
theorem lpN_lp (x : ByteArray) (n : Nat) (h : n ≤ x.size) : LP (at_ (bl x)) n (lpN x n) := by
  have h1 := endP_lp ((bl x).take n)
  rw [List.length_take, bl_len, Nat.min_eq_left h] at h1
  exact h1.congr fun j hj => by unfold at_; rw [List.getElem?_take_of_lt hj]
theorem lpN_pos (x : ByteArray) (n : Nat) (h0 : 0 < n) (h : n ≤ x.size) : 0 < lpN x n := endP_pos _ (by
  intro e
  have := congrArg List.length e
  rw [List.length_take, bl_len, List.length_nil, Nat.min_eq_left h] at this
  omega)
def lpW (x : ByteArray) (n : Nat) : ByteArray := x.extract (n - lpN x n) n

/-- Each palindrome is the longest one where it ends first. -/
theorem pal_first (x z : ByteArray) : ∀ e, e ≤ x.size → (∃ m, 1 ≤ m ∧ m ≤ e ∧ z = x.extract (e - m) e) → palT z = true → ∃ n, n < x.size ∧ z = lpW x (n + 1) := by
  intro e
  induction e using Nat.strongRecOn with
  | ind e ih =>
    rintro he ⟨m, h1, h2, hz⟩ hp
    have hl := lpN_lp x e he
    have hpa : PA (at_ (bl x)) (e - m) m := (ext_pal x (e - m) m (by omega)).1 (by rw [show e - m + m = e by omega, ← hz]; exact hp)
    have hmk := hl.2.2 m h2 hpa
    have hke := hl.1
    by_cases hc : m = lpN x e
    · refine ⟨e - 1, by omega, ?_⟩
      rw [hz, lpW, show e - 1 + 1 = e by omega, ← hc]
    · refine ih (e - lpN x e + m) (by omega) (by omega) ⟨m, h1, by omega, ?_⟩ hp
      rw [hz, show e - lpN x e + m - m = e - lpN x e by omega]
      have := ext_eq (x := x) (i := e - m) (j := e - lpN x e) (m := m) (by omega) (by omega) fun d hd => by
        rw [hpa d hd, hl.2.1 d (by omega)]
        congr 1
        omega
      rwa [show e - m + m = e by omega] at this
theorem pals_le (x : ByteArray) : (dfT palT x x.size).length ≤ x.size := by
  have := nodup_sub (dfT palT x x.size) ((List.range x.size).map fun n => lpW x (n + 1)) (dfT_nodup _ _ _ (Nat.le_refl _)) fun z hz => by
    obtain ⟨⟨i, m, h1, h2, h3, h4⟩, ht⟩ := (mem_dfT palT x z x.size (Nat.le_refl _)).1 hz
    obtain ⟨n, hn, e⟩ := pal_first x z (i + m) h3 ⟨m, h1, by omega, by rw [show i + m - m = i by omega]; exact h4⟩ ht
    exact List.mem_map.2 ⟨n, List.mem_range.2 hn, e.symm⟩
  rwa [List.length_map, List.length_range] at this
theorem pals_ge (x : ByteArray) (h : ∀ n, n < x.size → NewA (at_ (bl x)) n) : x.size ≤ (dfT palT x x.size).length := by
  have key : ∀ N, N ≤ x.size → ((List.range N).map fun n => lpW x (n + 1)).Nodup := by
    intro N
    induction N with
    | zero => intro _; exact List.nodup_nil
    | succ N ih =>
      intro hN
      rw [List.range_succ, List.map_append]
      refine nodup_app (ih (by omega)) (by simp) fun z hz hz2 => ?_
      obtain ⟨i, hi, rfl⟩ := List.mem_map.1 hz
      have hi2 := List.mem_range.1 hi
      have e : lpW x (i + 1) = lpW x (N + 1) := by simpa using hz2
      have l1 := lpN_lp x (i + 1) (by omega)
      have l2 := lpN_lp x (N + 1) (by omega)
      have q1 := l1.1
      have q2 := l2.1
      have s1 : (lpW x (i + 1)).size = lpN x (i + 1) := by unfold lpW; simp; omega
      have s2 : (lpW x (N + 1)).size = lpN x (N + 1) := by unfold lpW; simp; omega
      have s3 : lpN x (i + 1) = lpN x (N + 1) := by rw [← s1, ← s2, e]
      refine h N (by omega) _ l2 (i + 1 - lpN x (N + 1)) (by omega) (ext_sa (by omega) (by omega) ?_)
      unfold lpW at e
      rw [s3] at e
      rw [show i + 1 - lpN x (N + 1) + lpN x (N + 1) = i + 1 by omega, show N + 1 - lpN x (N + 1) + lpN x (N + 1) = N + 1 by omega]
      exact e
  have := nodup_sub _ (dfT palT x x.size) (key x.size (Nat.le_refl _)) fun z hz => by
    obtain ⟨n, hn, rfl⟩ := List.mem_map.1 hz
    have hn2 := List.mem_range.1 hn
    have l1 := lpN_lp x (n + 1) (by omega)
    have q1 := l1.1
    have q2 := lpN_pos x (n + 1) (by omega) (by omega)
    refine (mem_dfT palT x _ x.size (Nat.le_refl _)).2 ⟨⟨n + 1 - lpN x (n + 1), lpN x (n + 1), q2, by omega, by omega, ?_⟩, ?_⟩
    · unfold lpW; rw [show n + 1 - lpN x (n + 1) + lpN x (n + 1) = n + 1 by omega]
    · have := (ext_pal x (n + 1 - lpN x (n + 1)) (lpN x (n + 1)) (by omega)).2 l1.2.1
      rw [show n + 1 - lpN x (n + 1) + lpN x (n + 1) = n + 1 by omega] at this
      exact this
  rwa [List.length_map, List.length_range] at this
theorem pals_rich {x : ByteArray} (h : Dir (bl x)) : (dfT palT x x.size).length = x.size := Nat.le_antisymm (pals_le x) (pals_ge x h.rich.2.2)

/-- The directed word. -/
theorem bl_rev (x : ByteArray) : bl (rev x) = (bl x).reverse := by simp [bl, rev]
theorem bl_clo (x : ByteArray) : bl (clo x) = cloL (bl x) := by
  unfold clo cloL
  rw [bl_append, bl_rev, bl_take, bl_len]
theorem clo_pal (x : ByteArray) : palB (bl (clo x)) = true := by rw [bl_clo]; exact cloL_pal _
theorem dir_of {x : ByteArray} : ∀ (f k : Nat) (p q : ByteArray), k + f ≤ x.size → Dir (bl p) → dirF x k f p = some q → Dir (bl q)
  | 0, k, p, q, _, h, e => by rw [dirF_end] at e; cases e; exact h
  | f + 1, k, p, q, hk, h, e => by
    by_cases hl : 60 < (clo (p ++ x.extract k (k + 1))).size
    · rw [dirF_long hl] at e; cases e
    · rw [dirF_go hl] at e
      refine dir_of f (k + 1) _ q (by omega) ?_ e
      rw [bl_clo, bl_append]
      have hx : bl (x.extract k (k + 1)) = [x[k]'(by omega)] := by
        rw [bl_extract, show k + 1 - k = 1 by omega, List.drop_eq_getElem_cons (by rw [bl_len]; omega)]
        rfl
      rw [hx]
      exact h.step _

end Go.Proofs.Ythjbdcoklgnnlab

/-! ### FnPalPlain -/
namespace Go.Proofs.Ythjbdcoklgnnlab
set_option linter.unusedVariables false
set_option linter.unusedSimpArgs false

theorem ends_lpN (x : ByteArray) (i : Nat) : endP (bl (x.extract 0 (i + 1))) = lpN x (i + 1) := by unfold lpN; rw [bl_take]
/-- One letter more at the end: the longest palindrome grows by two at most. -/
theorem lpN_step (x : ByteArray) (n : Nat) (h : n + 1 ≤ x.size) : lpN x (n + 1) ≤ lpN x n + 2 := by
  have l1 := lpN_lp x (n + 1) h
  have l2 := lpN_lp x n (by omega)
  by_cases h2 : lpN x (n + 1) ≤ 2
  · omega
  · have h3 := l1.1
    have := l2.2.2 (lpN x (n + 1) - 2) (by omega) fun d hd => by
      have := l1.2.1 (d + 1) (by omega)
      rw [show n + 1 - lpN x (n + 1) + (d + 1) = n - (lpN x (n + 1) - 2) + d by omega, show n + 1 - lpN x (n + 1) + lpN x (n + 1) - 1 - (d + 1) = n - (lpN x (n + 1) - 2) + (lpN x (n + 1) - 2) - 1 - d by omega] at this
      exact this
    omega
theorem cpI_pos (x : ByteArray) (i : Nat) (h : i < x.size) : ∀ f, 1 ≤ f → 1 ≤ cpI x i f
  | 1, _ => by
    have := pal_letter x i h
    rw [cpI, cpI, show (0 : Nat) + 1 = 1 from rfl, if_pos this]
    omega
  | f + 2, _ => by
    have := cpI_pos x i h (f + 1) (by omega)
    rw [cpI]
    omega
theorem cpN_ge (x : ByteArray) : ∀ i, i ≤ x.size → i ≤ cpN x i
  | 0, _ => Nat.zero_le _
  | i + 1, h => by
    have h1 := cpN_ge x i (by omega)
    have h2 := cpI_pos x i (by omega) (x.size - i) (by omega)
    rw [cpN]
    omega
/-- The greatest of the first k ends. -/
def mxE (x : ByteArray) : Nat → Nat
  | 0 => 0
  | k + 1 => max (mxE x k) (lpN x (k + 1))
theorem mxE_ge (x : ByteArray) : ∀ k i, i < k → lpN x (i + 1) ≤ mxE x k
  | 0, i, h => by omega
  | k + 1, i, h => by
    rw [mxE]
    by_cases e : i = k
    · subst e; exact Nat.le_max_right _ _
    · exact Nat.le_trans (mxE_ge x k i (by omega)) (Nat.le_max_left _ _)
theorem mxE_some (x : ByteArray) : ∀ k, 0 < k → ∃ i, i < k ∧ mxE x k = lpN x (i + 1)
  | 1, _ => ⟨0, by omega, by rw [mxE, mxE]; exact Nat.max_eq_right (Nat.zero_le _)⟩
  | k + 2, _ => by
    obtain ⟨i, hi, e⟩ := mxE_some x (k + 1) (by omega)
    rw [mxE]
    by_cases h : mxE x (k + 1) ≤ lpN x (k + 1 + 1)
    · exact ⟨k + 1, by omega, Nat.max_eq_right h⟩
    · exact ⟨i, by omega, by rw [Nat.max_eq_left (by omega)]; exact e⟩
theorem mxE_le (x : ByteArray) : ∀ k, k ≤ x.size → mxE x k ≤ x.size
  | 0, _ => Nat.zero_le _
  | k + 1, h => by
    rw [mxE]
    exact Nat.max_le.2 ⟨mxE_le x k (by omega), by have := (lpN_lp x (k + 1) h).1; omega⟩
/-- The longest palindrome is as long as the greatest end. -/
theorem lgF_len (x : ByteArray) : ∀ m, m ≤ x.size → mxE x x.size ≤ m → 0 < x.size → (lgF x m).1.size = mxE x x.size
  | 0, h, h2, h0 => by
    have h3 : lpN x 1 ≤ mxE x x.size := mxE_ge x x.size 0 h0
    have := lpN_pos x 1 (by omega) (by omega)
    omega
  | m + 1, h, h2, h0 => by
    cases e : piI x (m + 1) 0 (x.size + 1 - (m + 1)) with
    | none =>
      rw [lgF_miss (by omega) e, show m + 1 - 1 = m by omega]
      refine lgF_len x m (by omega) (Nat.le_of_lt_succ (Nat.lt_of_le_of_ne h2 fun hq => ?_)) h0
      obtain ⟨i, hi, hm⟩ := mxE_some x x.size h0
      have l1 := lpN_lp x (i + 1) (by omega)
      have l2 := l1.1
      have := piI_no _ _ e (i + 1 - lpN x (i + 1)) (Nat.zero_le _) (by omega)
      have h3 := (ext_pal x (i + 1 - lpN x (i + 1)) (lpN x (i + 1)) (by omega)).2 l1.2.1
      rw [← hm, hq] at h3
      rw [← hm, hq, h3] at this
      cases this
    | some i =>
      obtain ⟨h3, h4, h5⟩ := piI_lt _ _ e
      have h6 := (ext_pal x i (m + 1) (by omega)).1 h5
      have h7 := (lpN_lp x (i + (m + 1)) (by omega)).2.2 (m + 1) (by omega) (by rw [show i + (m + 1) - (m + 1) = i by omega]; exact h6)
      have h8 := mxE_ge x x.size (i + m) (by omega)
      rw [show i + m + 1 = i + (m + 1) by omega] at h8
      rw [lgF_hit (by omega) e]
      show (x.extract i (i + (m + 1))).size = _
      simp
      omega
theorem lg_most {x : ByteArray} (h0 : 0 < x.size) : (lgF x x.size).1.size = mxE x x.size := lgF_len x _ (Nat.le_refl _) (mxE_le x _ (Nat.le_refl _)) h0

end Go.Proofs.Ythjbdcoklgnnlab

/-! ### WordsPlain -/
namespace Go.Proofs.Ythjbdcoklgnnlab
set_option linter.unusedVariables false
set_option linter.unusedSimpArgs false
open Go.RowKit

def lt1 (j : Nat) : ByteArray := ⟨#[letB (j : Int)]⟩
def rowW (s : ByteArray) (c : Nat) : List ByteArray := (List.range c).map fun j => s ++ lt1 j
def nextW (k : Nat) (L : List ByteArray) : List ByteArray := L.flatMap fun s => rowW s k
def allW (k : Nat) : Nat → List ByteArray
  | 0 => [⟨#[]⟩]
  | m + 1 => nextW k (allW k m)
theorem rowW_len (s : ByteArray) (c : Nat) : (rowW s c).length = c := by simp [rowW]
theorem rowW_succ (s : ByteArray) (c : Nat) : rowW s (c + 1) = rowW s c ++ [s ++ lt1 c] := by simp [rowW, List.range_succ]
theorem rowW_zero (s : ByteArray) : rowW s 0 = [] := rfl
theorem nextW_take (k : Nat) (L : List ByteArray) (i : Nat) (h : i < L.length) : nextW k (L.take (i + 1)) = nextW k (L.take i) ++ rowW (L[i]'h) k := by
  unfold nextW
  rw [List.take_succ_eq_append_getElem h, List.flatMap_append]
  simp
theorem nextW_len (k : Nat) : ∀ (L : List ByteArray), (nextW k L).length = L.length * k
  | [] => by simp [nextW]
  | s :: L => by
    have h := nextW_len k L
    unfold nextW at *
    rw [List.flatMap_cons, List.length_append, h, rowW_len, List.length_cons, Nat.succ_mul, Nat.add_comm]
theorem allW_len (k : Nat) : ∀ m, (allW k m).length = k ^ m
  | 0 => rfl
  | m + 1 => by rw [allW, nextW_len, allW_len k m, Nat.pow_succ]
theorem lt1_size (j : Nat) : (lt1 j).size = 1 := rfl
theorem mem_nextW {k : Nat} {L : List ByteArray} {n : Nat} (h : ∀ s ∈ L, s.size ≤ n) : ∀ s ∈ nextW k L, s.size ≤ n + 1 := by
  intro s hs
  unfold nextW at hs
  rw [List.mem_flatMap] at hs
  obtain ⟨t, ht, hs⟩ := hs
  unfold rowW at hs
  rw [List.mem_map] at hs
  obtain ⟨j, _, rfl⟩ := hs
  rw [ByteArray.size_append, lt1_size]
  have := h t ht
  omega
theorem allW_size (k : Nat) : ∀ m, ∀ s ∈ allW k m, s.size ≤ m
  | 0, s, h => by
    simp [allW] at h
    subst h
    exact Nat.le_refl _
  | m + 1, s, h => mem_nextW (allW_size k m) s h
theorem encode_letter (j : Nat) (h : j ≤ 4) : Utf8.encode (97 + (j : Int)) = lt1 j := by
  have : ∀ j : Nat, j ≤ 4 → Utf8.encode (97 + (j : Int)) = lt1 j := by
    intro j hj
    match j, hj with
    | 0, _ => rfl
    | 1, _ => rfl
    | 2, _ => rfl
    | 3, _ => rfl
    | 4, _ => rfl
  exact this j h
def wordsR (m k : Int) : List ByteArray × Int := if m < 0 ∨ 60 < m ∨ k < 1 ∨ 5 < k then ([], 2) else if 256 < k.toNat ^ m.toNat then ([], 3) else (allW k.toNat m.toNat, 0)
theorem wordsR_out {m k : Int} (h : m < 0 ∨ 60 < m ∨ k < 1 ∨ 5 < k) : wordsR m k = ([], 2) := if_pos h
theorem wordsR_long {m k : Nat} (h1 : m ≤ 60) (h2 : 1 ≤ k) (h3 : k ≤ 5) (h : 256 < k ^ m) : wordsR (m : Int) (k : Int) = ([], 3) := by unfold wordsR; rw [if_neg (by omega), if_pos (by simpa using h)]
theorem wordsR_ok {m k : Nat} (h1 : m ≤ 60) (h2 : 1 ≤ k) (h3 : k ≤ 5) (h : ¬ 256 < k ^ m) : wordsR (m : Int) (k : Int) = (allW k m, 0) := by unfold wordsR; rw [if_neg (by omega), if_neg (by simpa using h)]; rfl
theorem wordsR_len (m k : Int) : (wordsR m k).1.length ≤ 4096 := by
  unfold wordsR
  split
  · simp
  · split
    · simp
    · rename_i h
      rw [allW_len]
      omega

end Go.Proofs.Ythjbdcoklgnnlab

/-! ### Dir -/
namespace Go.Proofs.Ythjbdcoklgnnlab
set_option linter.unusedVariables false
set_option linter.unusedSimpArgs false
open Go.RowKit

theorem one_letter (x : ByteArray) (k : Nat) (h : k < x.size) : bl (x.extract k (k + 1)) = [x[k]'h] := by
  rw [bl_extract, show k + 1 - k = 1 by omega, List.drop_eq_getElem_cons (by rw [bl_len]; omega)]
  rfl
theorem encode_at (x : ByteArray) (k : Nat) (h : k < x.size) (h1 : 97 ≤ (x[k]'h).toNat) (h2 : (x[k]'h).toNat ≤ 101) : Utf8.encode ((x[k]'h).toNat : Int) = x.extract k (k + 1) := by
  have e := encode_letter ((x[k]'h).toNat - 97) (by omega)
  rw [show (97 : Int) + (((x[k]'h).toNat - 97 : Nat) : Int) = ((x[k]'h).toNat : Int) by omega] at e
  rw [e]
  refine bl_inj ?_
  have e2 : bl (lt1 ((x[k]'h).toNat - 97)) = [letB (((x[k]'h).toNat - 97 : Nat) : Int)] := rfl
  have e3 := letB_nat (n := (((x[k]'h).toNat - 97 : Nat) : Int)) (by omega) (by omega)
  have e4 : letB (((x[k]'h).toNat - 97 : Nat) : Int) = x[k]'h := UInt8.toNat_inj.1 (by omega)
  rw [one_letter x k h, e2, e4]
theorem isL_snoc {p x : ByteArray} {k : Nat} (hp : IsL p) (hx : IsL x) (hk : k < x.size) : IsL (p ++ x.extract k (k + 1)) := by
  have key : ∀ b ∈ bl (p ++ x.extract k (k + 1)), 97 ≤ b.toNat ∧ b.toNat ≤ 101 := by
    intro b hb
    rw [bl_append, one_letter x k hk, List.mem_append, List.mem_singleton] at hb
    rcases hb with hb | rfl
    · obtain ⟨i, hi, rfl⟩ := List.getElem_of_mem hb
      exact hp i hi
    · exact hx k hk
  intro i hi
  exact key _ (List.getElem_mem (by rw [bl_len]; exact hi))
theorem isL_clo {x : ByteArray} (h : IsL x) : IsL (clo x) := by
  have key : ∀ b ∈ bl (clo x), 97 ≤ b.toNat ∧ b.toNat ≤ 101 := by
    intro b hb
    rw [bl_clo, cloL, List.mem_append, List.mem_reverse] at hb
    have hb2 : b ∈ bl x := by
      rcases hb with hb | hb
      · exact hb
      · exact List.mem_of_mem_take hb
    obtain ⟨i, hi, rfl⟩ := List.getElem_of_mem hb2
    exact h i hi
  intro i hi
  exact key _ (List.getElem_mem (by rw [bl_len]; exact hi))

end Go.Proofs.Ythjbdcoklgnnlab

/-! ### TopPlain -/
namespace Go.Proofs.Ythjbdcoklgnnlab
set_option linter.unusedVariables false
set_option linter.unusedSimpArgs false

theorem Per.rev {l : List UInt8} {p : Nat} (h : Per l p) : Per l.reverse p := fun i hi => by
  rw [List.length_reverse] at hi
  rw [List.getElem?_reverse (by omega), List.getElem?_reverse (by omega)]
  have := h (l.length - 1 - (i + p)) (by omega)
  rw [show l.length - 1 - (i + p) + p = l.length - 1 - i by omega] at this
  exact this.symm
theorem perT_rev (l : List UInt8) (p : Nat) : perT l.reverse p = perT l p := by
  rw [Bool.eq_iff_iff, perT_iff, perT_iff]
  exact ⟨fun h => by have := h.rev; rwa [List.reverse_reverse] at this, Per.rev⟩
theorem persR_rev (l : List UInt8) (N : Nat) : persR l.reverse N = persR l N := by unfold persR; simp only [perT_rev]
theorem persR_end {l : List UInt8} (h : l ≠ []) : ∃ t, persR l l.length = t ++ [(l.length : Int)] := by
  obtain ⟨k, hk⟩ : ∃ k, l.length = k + 1 := ⟨l.length - 1, by have := List.length_pos_iff.2 h; omega⟩
  refine ⟨persR l k, ?_⟩
  have := persR_hit l k ((perT_iff l (k + 1)).2 (by rw [← hk]; exact per_all l))
  rw [hk, this]; simp
theorem persR_has {l : List UInt8} {p : Nat} (h0 : 0 < p) (hp : p ≤ l.length) (h : Per l p) : (p : Int) ∈ persR l l.length := by
  unfold persR
  refine List.mem_map.2 ⟨p - 1, List.mem_filter.2 ⟨List.mem_range.2 (by omega), ?_⟩, by omega⟩
  rw [show p - 1 + 1 = p by omega]
  exact (perT_iff l p).2 h
theorem repeat_len (l : List UInt8) : ∀ k, (Lib.repeatL l k).length = k * l.length
  | 0 => by simp [Lib.repeatL]
  | k + 1 => by rw [Lib.repeatL_add, Lib.repeatL_one, List.length_append, repeat_len l k, Nat.succ_mul]
theorem repeat_per (l : List UInt8) (k : Nat) : Per (Lib.repeatL l (k + 1)) l.length := by
  rw [← perT_iff]
  unfold perT
  rw [beq_iff_eq]
  have e1 : Lib.repeatL l (k + 1) = l ++ Lib.repeatL l k := by rw [Nat.add_comm, Lib.repeatL_add, Lib.repeatL_one]
  have e2 : Lib.repeatL l (k + 1) = Lib.repeatL l k ++ l := by rw [Lib.repeatL_add, Lib.repeatL_one]
  have e3 : (Lib.repeatL l (k + 1)).length - l.length = (Lib.repeatL l k).length := by rw [e2, List.length_append]; omega
  rw [e3]
  conv => lhs; rw [e1]
  conv => rhs; rw [e2]
  simp
theorem bl_pow (x : ByteArray) (k : Nat) : bl (pow x k) = Lib.repeatL (bl x) k := by simp [bl, pow]
theorem pow_per (x : ByteArray) (k : Nat) (h : 0 < k) : Per (bl (pow x k)) x.size := by
  obtain ⟨j, rfl⟩ : ∃ j, k = j + 1 := ⟨k - 1, by omega⟩
  rw [bl_pow]
  exact repeat_per (bl x) j
theorem rl_dvd_cyc {l : List UInt8} (h : l ≠ []) {m : Nat} (hm : Cyc l m) : rl l ∣ m := by
  have hg := (rl_cyc h).gcd hm
  have hp := rl_pos h
  have h1 : Nat.gcd (rl l) m ≤ rl l := Nat.gcd_le_left _ hp
  have h2 : 0 < Nat.gcd (rl l) m := Nat.gcd_pos_of_pos_left _ hp
  by_cases e : Nat.gcd (rl l) m < rl l
  · exact absurd hg (rl_least h h2 e)
  · have e2 : Nat.gcd (rl l) m = rl l := by omega
    rw [← e2]; exact Nat.gcd_dvd_right _ _
theorem IsW.ofL {x : ByteArray} (h : ∀ b ∈ bl x, 97 ≤ b.toNat ∧ b.toNat ≤ 101) (hs : x.size ≤ 60) : IsW x := ⟨hs, fun i hi => h _ (List.getElem_mem (l := bl x) (by rw [bl_len]; exact hi))⟩
theorem IsW.toL {x : ByteArray} (h : IsW x) : ∀ b ∈ bl x, 97 ≤ b.toNat ∧ b.toNat ≤ 101 := by
  intro b hb
  obtain ⟨i, hi, rfl⟩ := List.getElem_of_mem hb
  exact h.2 i (by rw [bl_len] at hi; exact hi)
theorem mem_repeat {l : List UInt8} {b : UInt8} : ∀ k, b ∈ Lib.repeatL l k → b ∈ l
  | 0, h => by simp [Lib.repeatL] at h
  | k + 1, h => by
    rw [Lib.repeatL_add, Lib.repeatL_one, List.mem_append] at h
    rcases h with h | h
    · exact mem_repeat k h
    · exact h
theorem pow_isW {x : ByteArray} (h : IsW x) (k : Nat) (hs : x.size * k ≤ 60) : IsW (pow x k) := IsW.ofL (fun b hb => h.toL b (by rw [bl_pow] at hb; exact mem_repeat k hb)) (by rw [pow_size]; exact hs)
theorem rev_size' (x : ByteArray) : (rev x).size = x.size := by
  have := congrArg List.length (bl_rev x)
  rwa [List.length_reverse, bl_len, bl_len] at this
theorem rev_isW {x : ByteArray} (h : IsW x) : IsW (rev x) := IsW.ofL (fun b hb => h.toL b (by rw [bl_rev, List.mem_reverse] at hb; exact hb)) (by rw [rev_size']; exact h.size)
/-- What the top promise tells of a word with letters. -/
structure TopW (x : ByteArray) : Prop where
  two : periodsR (rev x) = periodsR x
  pos : 0 < (periodsR x).1.length
  last : ∀ h : (periodsR x).1.length - 1 < (periodsR x).1.length, (periodsR x).1[(periodsR x).1.length - 1]'h = (x.size : Int)
theorem topW {x : ByteArray} (h : IsW x) (h0 : 0 < x.size) : TopW x := by
  have hr := rev_isW h
  obtain ⟨t, ht⟩ := persR_end (bl_ne h0)
  rw [bl_len] at ht
  have e : (periodsR x).1 = t ++ [(x.size : Int)] := by rw [periodsR_ok h]; exact ht
  refine ⟨?_, by rw [e]; simp, ?_⟩
  · have es := rev_size' x
    rw [periodsR_ok h, periodsR_ok hr, bl_rev, persR_rev, es]
  · rw [e]; intro hh; simp
/-- What it tells of a power. -/
theorem topP {x : ByteArray} (h : IsW x) (h0 : 0 < x.size) {k : Nat} (hk : 0 < k) (hs : x.size * k ≤ 60) :
    (x.size : Int) ∈ (periodsR (pow x k)).1 ∧ (periodsR (pow x k)).2 = 0 ∧ (rootR (pow x k)).2.2 = 0 ∧ ∃ c : Nat, (rootR (pow x k)).2.1 = ((c * k : Nat) : Int) ∧ (rootR (pow x k)).1.size * c = x.size := by
  have hw := pow_isW h k hs
  have hz : (pow x k).size = x.size * k := pow_size x k
  have hpos : 0 < (pow x k).size := by rw [hz]; exact Nat.mul_pos h0 hk
  have hle : x.size ≤ (pow x k).size := by rw [hz]; exact Nat.le_mul_of_pos_right _ hk
  have hper := pow_per x k hk
  have hne := bl_ne hpos
  have hcyc : Cyc (bl (pow x k)) x.size := cyc_of_per h0 hper (by rw [bl_len, hz]; exact Nat.dvd_mul_right _ _)
  obtain ⟨c, hc⟩ := rl_dvd_cyc hne hcyc
  have r0 := rl_pos hne
  have r1 := rl_le hne
  rw [bl_len] at r1
  refine ⟨?_, by rw [periodsR_ok hw], by rw [rootR_ok hw (by omega)], c, ?_, ?_⟩
  · rw [periodsR_ok hw]
    have := persR_has h0 (by rw [bl_len]; exact hle) hper
    rwa [bl_len] at this
  · rw [rootR_ok hw (by omega)]
    show (((pow x k).size / rl (bl (pow x k)) : Nat) : Int) = _
    rw [hz, hc, Nat.mul_assoc, Nat.mul_div_cancel_left _ r0]
  · rw [rootR_ok hw (by omega)]
    show ((pow x k).extract 0 (rl (bl (pow x k)))).size * c = x.size
    rw [show ((pow x k).extract 0 (rl (bl (pow x k)))).size = rl (bl (pow x k)) by simp; omega]
    exact hc.symm
/-- What it tells of the closure. -/
theorem topC {x : ByteArray} (h : IsW x) (hc : (cloR x).2 = 0) : ispR (cloR x).1 = (true, 0) ∧ x.size ≤ (cloR x).1.size ∧ (cloR x).1.extract 0 x.size = x ∧ (cloR x).1.size ≤ 60 := by
  by_cases hl : 60 < (clo x).size
  · rw [cloR_long h hl] at hc; cases hc
  · rw [cloR_ok h hl]
    have hw : IsW (clo x) := (isL_clo h.lets).word (by omega)
    refine ⟨by rw [ispR_ok hw, clo_pal], by show x.size ≤ (clo x).size; rw [clo_size]; omega, ?_, by show (clo x).size ≤ 60; omega⟩
    show (clo x).extract 0 x.size = x
    apply bl_inj
    rw [bl_take, bl_clo]
    unfold cloL
    rw [List.take_append_of_le_length (by rw [bl_len]; exact Nat.le_refl _), List.take_of_length_le (by rw [bl_len]; exact Nat.le_refl _)]
theorem topC_code {x : ByteArray} (h : IsW x) : (cloR x).2 = 0 ∨ (cloR x).2 = 3 := by
  by_cases hl : 60 < (clo x).size
  · rw [cloR_long h hl]; exact .inr rfl
  · rw [cloR_ok h hl]; exact .inl rfl

end Go.Proofs.Ythjbdcoklgnnlab

/-! ### FnPalGood -/
namespace Go.Proofs.Ythjbdcoklgnnlab
set_option linter.unusedVariables false
set_option linter.unusedSimpArgs false
open Go.RowKit

theorem OwnI.lookP {w : World} {B : Nat} {v : Value} {L : List Int} (h : OwnI w B v L) : ∃ ad cap, v = .slice ad L.length cap ∧ ∀ j (hj : j < L.length), ∃ g, ad = some ⟨g, 0, none⟩ ∧ g < w.heap.size ∧ j < cap ∧ w.cell? ⟨g, j, none⟩ = some (.int .i64 (L[j]'hj)) := by
  by_cases hn : 0 < L.length
  · obtain ⟨g, cap, rfl, _, hg, hc, _, cell, _⟩ := h.row hn
    exact ⟨_, _, rfl, fun j hj => ⟨g, rfl, hg, by omega, cell j hj⟩⟩
  · have e : L = [] := List.length_eq_zero_iff.1 (by omega)
    subst e
    obtain ⟨a, c, rfl⟩ := h.empty
    exact ⟨a, c, rfl, fun j hj => absurd hj (by simp)⟩
theorem OwnS.lookP {w : World} {B : Nat} {v : Value} {L : List ByteArray} (h : OwnS w B v L) : ∃ ad cap, v = .slice ad L.length cap ∧ ∀ j (hj : j < L.length), ∃ g, ad = some ⟨g, 0, none⟩ ∧ g < w.heap.size ∧ j < cap ∧ w.cell? ⟨g, j, none⟩ = some (.string (L[j]'hj)) := by
  by_cases hn : 0 < L.length
  · obtain ⟨g, cap, rfl, _, hg, hc, _, cell, _⟩ := h.row hn
    exact ⟨_, _, rfl, fun j hj => ⟨g, rfl, hg, by omega, cell j hj⟩⟩
  · have e : L = [] := List.length_eq_zero_iff.1 (by omega)
    subst e
    obtain ⟨a, c, rfl⟩ := h.empty
    exact ⟨a, c, rfl, fun j hj => absurd hj (by simp)⟩
theorem pos_place {x z : ByteArray} {i : Nat} (hi : i + z.size ≤ x.size) (h : z = x.extract i (i + z.size)) : 0 < (posOf x z (List.range (x.size + 1 - z.size))).length := by
  unfold posOf
  rw [List.length_map]
  exact List.length_pos_of_mem (List.mem_filter.2 ⟨List.mem_range.2 (show i < x.size + 1 - z.size by omega), decide_eq_true h.symm⟩)
/-- What hangs together. -/
structure PalG (x : ByteArray) (L : List ByteArray) (n d : Int) (E : List Int) (lg : ByteArray) (c4 : Int) : Prop where
  small : x.size ≤ 60
  many : L.length ≤ 60
  dv : d = (x.size : Int) - (L.length : Int)
  le : L.length ≤ x.size
  cnt : (x.size : Int) ≤ n ∧ n ≤ 4000
  elen : E.length = x.size
  ends : ∀ i (h : i < E.length), E[i]'h = (lpN x (i + 1) : Int)
  one : ∀ i, i < x.size → 1 ≤ lpN x (i + 1) ∧ lpN x (i + 1) ≤ 60
  step : ∀ i, i + 1 < x.size → lpN x (i + 1 + 1) ≤ lpN x (i + 1) + 2
  pals : ∀ j (h : j < L.length), ispR (L[j]'h) = (true, 0) ∧ (L[j]'h).size ≤ 60 ∧ (placesR x (L[j]'h)).2 = 0 ∧ 0 < (placesR x (L[j]'h)).1.length ∧ (placesR x (L[j]'h)).1.length ≤ 4096
  long : x.size = 0 ∨ (c4 = 0 ∧ lg.size = mxE x x.size)
  mx : ∀ k, k ≤ x.size → mxE x k ≤ 60
theorem pal_cases (x : ByteArray) : ((palsR x).2 = 1 ∧ (cpR x).2 = 1 ∧ (defR x).2 = 1 ∧ (lgR x).2.2 = 1 ∧ (palsR x).1 = []) ∨
    ((palsR x).2 = 0 ∧ (cpR x).2 = 0 ∧ (defR x).2 = 0 ∧ (endsR x).2 = 0 ∧ PalG x (palsR x).1 (cpR x).1 (defR x).1 (endsR x).1 (lgR x).1 (lgR x).2.2) := by
  by_cases h : IsW x
  · right
    have h1 := h.size
    have hle := pals_le x
    refine ⟨by rw [palsR_ok h], by rw [cpR_ok h], by rw [defR_ok h], by rw [endsR_ok h], ?_⟩
    have e1 : (palsR x).1 = dfT palT x x.size := by rw [palsR_ok h]
    have e2 : (cpR x).1 = (cpN x x.size : Int) := by rw [cpR_ok h]
    have e3 : (defR x).1 = (x.size : Int) - (dfT palT x x.size).length := by rw [defR_ok h]
    have e4 : (endsR x).1 = endsL x x.size := by rw [endsR_ok h]
    have hl : ∀ i, i < x.size → lpN x (i + 1) ≤ i + 1 := fun i hi => (lpN_lp x (i + 1) (by omega)).1
    refine ⟨h1, by rw [e1]; omega, by rw [e1, e3], by rw [e1]; exact hle, ?_, by rw [e4, endsL_len], ?_, fun i hi => ⟨lpN_pos x (i + 1) (by omega) (by omega), by have := hl i hi; omega⟩, fun i hi => lpN_step x (i + 1) (by omega), ?_, ?_, fun k hk => by have := mxE_le x k hk; omega⟩
    · rw [e2]
      have a := cpN_ge x x.size (Nat.le_refl _)
      have b := cpN_le x x.size
      have c : x.size * x.size ≤ 60 * 60 := Nat.mul_le_mul h1 h1
      omega
    · rw [e4]
      intro i hi
      have : (endsL x x.size)[i]'hi = (endP (bl (x.extract 0 (i + 1))) : Int) := by simp [endsL]
      rw [this, ends_lpN]
    · rw [e1]
      intro j hj
      have hm := List.getElem_mem hj
      generalize (dfT palT x x.size)[j]'hj = z at hm
      obtain ⟨⟨i, m, hm1, hm2, him, rfl⟩, hp⟩ := (mem_dfT palT x z x.size (Nat.le_refl _)).1 hm
      have hz : (x.extract i (i + m)).size = m := by simp; omega
      have hw : IsW (x.extract i (i + m)) := h.extract _ _
      refine ⟨by rw [ispR_ok hw]; exact congrArg (fun b => (b, (0 : Int))) hp, by omega, by rw [placesR_ok ⟨h, hw⟩], ?_, ?_⟩
      · rw [placesR_ok ⟨h, hw⟩]
        exact pos_place (i := i) (by omega) (by rw [hz])
      · exact placesR_len _ _
    · by_cases h0 : x.size = 0
      · exact .inl h0
      · right
        rw [lgR_ok h h0]
        exact ⟨rfl, lg_most (by omega)⟩
  · left
    exact ⟨by rw [palsR_bad h], by rw [cpR_bad h], by rw [defR_bad h], by rw [lgR_bad h], by rw [palsR_bad h]⟩

end Go.Proofs.Ythjbdcoklgnnlab
