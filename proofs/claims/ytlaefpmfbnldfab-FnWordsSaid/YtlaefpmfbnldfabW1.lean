/- Contracts of the first chapter, put together for the law on words. -/
import Derived.Test.YtlaefpmfbnldfabPlain
import Derived.Shelf.Strings.Repeat
import Derived.Test.YtlaefpmfbnldfabTurn
import Derived.Test.YtlaefpmfbnldfabLib
import Derived.Test.YtlaefpmfbnldfabWords
import Derived.Test.YtlaefpmfbnldfabLettersPlain
import Derived.Test.YtlaefpmfbnldfabWordOfPlain
import Derived.Test.YtlaefpmfbnldfabWordOfS
import Derived.Test.YtlaefpmfbnldfabNumbers
import Derived.Lib.Bytealg
import Derived.WalkLawsBesides
import Derived.Sort.Walk0
import Derived.Test.YtlaefpmfbnldfabComPlain
import Derived.IntWalk
import Derived.Test.YtlaefpmfbnldfabOwn
import Derived.Test.YtlaefpmfbnldfabNamed
import Derived.Test.YtlaefpmfbnldfabNamedS

/-! ### PowPlain -/
namespace Go.Proofs.Ytlaefpmfbnldfab
set_option linter.unusedVariables false
set_option linter.unusedSimpArgs false
open Go.RowKit

def pow (x : ByteArray) (n : Nat) : ByteArray := ⟨(Lib.repeatL x.data.toList n).toArray⟩
theorem pow_zero (x : ByteArray) : pow x 0 = ⟨#[]⟩ := rfl
theorem pow_empty (n : Nat) : pow ⟨#[]⟩ n = ⟨#[]⟩ := by
  show (⟨(Lib.repeatL [] n).toArray⟩ : ByteArray) = _
  rw [Lib.repeatL_nil]
theorem pow_succ (x : ByteArray) (n : Nat) : pow x n ++ x = pow x (n + 1) := by
  apply ByteArray.ext
  rw [ByteArray.data_append]
  show (Lib.repeatL x.data.toList n).toArray ++ x.data = (Lib.repeatL x.data.toList (n + 1)).toArray
  rw [Lib.repeatL_add, Lib.repeatL_one]
  simp
theorem pow_size (x : ByteArray) (n : Nat) : (pow x n).size = x.size * n := by
  show (Lib.repeatL x.data.toList n).toArray.size = x.data.size * n
  rw [List.size_toArray, Lib.repeatL_length, Nat.mul_comm]
  rfl
def powR (x : ByteArray) (k : Int) : ByteArray × Int := if ¬ IsW x then (tE, 1) else if k < 0 ∨ 1000 < k then (tE, 2) else if 60 < (x.size : Int) * k then (tE, 3) else (pow x k.toNat, 0)
theorem powR_bad {x : ByteArray} {k : Int} (h : ¬ IsW x) : powR x k = (⟨#[]⟩, 1) := if_pos h
theorem powR_out {x : ByteArray} {k : Int} (h : IsW x) (hk : k < 0 ∨ 1000 < k) : powR x k = (⟨#[]⟩, 2) := by unfold powR; rw [if_neg (not_not_intro h), if_pos hk]; rfl
theorem powR_long {x : ByteArray} {k : Nat} (h : IsW x) (hk : k ≤ 1000) (hl : 60 < x.size * k) : powR x (k : Int) = (⟨#[]⟩, 3) := by
  have h2 : (60 : Int) < (x.size : Int) * k := by have : ((x.size * k : Nat) : Int) = (x.size : Int) * k := Int.natCast_mul _ _; omega
  unfold powR; rw [if_neg (not_not_intro h), if_neg (by omega), if_pos h2]; rfl
theorem powR_ok {x : ByteArray} {k : Nat} (h : IsW x) (hk : k ≤ 1000) (hl : x.size * k ≤ 60) : powR x (k : Int) = (pow x k, 0) := by
  have h2 : ¬ (60 : Int) < (x.size : Int) * k := by have : ((x.size * k : Nat) : Int) = (x.size : Int) * k := Int.natCast_mul _ _; omega
  unfold powR; rw [if_neg (not_not_intro h), if_neg (by omega), if_neg h2]; rfl

end Go.Proofs.Ytlaefpmfbnldfab

/-! ### Power -/
namespace Go.Proofs.Ytlaefpmfbnldfab
set_option linter.unusedVariables false
set_option linter.unusedSimpArgs false
open Go.RowKit

set_option maxRecDepth 100000 in
set_option maxHeartbeats 1000000 in
theorem impl_PowerOf (x : ByteArray) (k : Int) (w : World) (sx : x.size ≤ maxLen) (wk : (Lit.int .i64 k).wf = true) :
    Calls Try.prog 26 #[.string x, .int .i64 k] w fun e w' => e = .returned (.tuple #[.string (powR x k).1, .int .i64 (powR x k).2]) ∧ Below w.heap.size w w' := by
  by_cases h : IsW x
  · have h1 := h.size
    by_cases hk : k < 0 ∨ 1000 < k
    · rw [powR_out h hk]
      have H := Lib.hid h
      clear h
      rcases hk with hk | hk
      · go_enter Try.func26, Try.ntmps26
        go_wp2_with (go_at_call 52; refine (isWord_yes x _ H.out).mono ?_; rintro e w1 ⟨rfl, b1⟩)
        go_ret2
        exact ⟨rfl, b1⟩
      · have hk0 : 0 ≤ k := by omega
        go_enter Try.func26, Try.ntmps26
        go_wp2_with (go_at_call 52; refine (isWord_yes x _ H.out).mono ?_; rintro e w1 ⟨rfl, b1⟩)
        go_ret2
        exact ⟨rfl, b1⟩
    · obtain ⟨n, rfl⟩ := Int.eq_ofNat_of_zero_le (show 0 ≤ k by omega)
      have hn : n ≤ 1000 := by omega
      clear hk
      have hmul : ((x.size * n : Nat) : Int) = (x.size : Int) * n := Int.natCast_mul _ _
      have hle : x.size * n ≤ 60 * 1000 := Nat.mul_le_mul h1 hn
      have m0 : (0 : Int) ≤ (x.size : Int) * n := by omega
      have m1 : (x.size : Int) * n ≤ 60000 := by omega
      by_cases hl : 60 < x.size * n
      · rw [powR_long h hn hl]
        have H := Lib.hid h
        have hl2 : (60 : Int) < (x.size : Int) * n := by omega
        clear h hmul hl hle
        go_enter Try.func26, Try.ntmps26
        go_wp2_with (go_at_call 52; refine (isWord_yes x _ H.out).mono ?_; rintro e w1 ⟨rfl, b1⟩)
        go_ret2
        exact ⟨rfl, b1⟩
      · rw [powR_ok h hn (by omega)]
        have H := Lib.hid h
        have HL : Hid (x.size * n ≤ 60) := Lib.hid (by omega)
        have hl2 : (x.size : Int) * n ≤ 60 := by omega
        clear h hmul hl hle
        go_enter Try.func26, Try.ntmps26
        go_wp2_with (go_at_call 52; refine (isWord_yes x _ H.out).mono ?_; rintro e w1 ⟨rfl, b1⟩)
        refine (Try.strings_Repeat x n _ (by omega) (by have := HL.out; omega)).mono ?_
        rintro e w2 ⟨rfl, b2⟩
        have hps : (pow x n).size ≤ 281474976710656 := by rw [pow_size]; have := HL.out; omega
        have HPS := Lib.hid hps
        clear hps
        rw [show (⟨(Lib.repeatL x.data.toList n).toArray⟩ : ByteArray) = pow x n from rfl]
        go_wp2_with fail
        refine (strings_Clone _ _ HPS.out).mono ?_
        rintro e w3 ⟨rfl, b3⟩
        go_wp2_with fail
        go_ret2
        exact ⟨rfl, (b1.then b2).then b3⟩
  · rw [powR_bad h]
    have H := Lib.hid h
    clear h
    go_enter Try.func26, Try.ntmps26
    go_wp2_with (go_at_call 52; refine (isWord_not x _ sx H.out).mono ?_; rintro e w1 ⟨rfl, b1⟩)
    go_ret2
    exact ⟨rfl, b1⟩

set_option maxRecDepth 100000 in
set_option maxHeartbeats 1000000 in
theorem spec_PowerOf (x : ByteArray) (k : Int) (w : World) (sx : x.size ≤ maxLen) (wk : (Lit.int .i64 k).wf = true) :
    Calls Try.prog 64 #[.string x, .int .i64 k] w fun e w' => e = .returned (.tuple #[.string (powR x k).1, .int .i64 (powR x k).2]) ∧ Below w.heap.size w w' := by
  by_cases h : IsW x
  · have h1 := h.size
    by_cases hk : k < 0 ∨ 1000 < k
    · rw [powR_out h hk]
      have H := Lib.hid h
      clear h
      have HK := Lib.hid hk
      clear hk
      go_enter Try.func64, Try.ntmps64
      go_wp2_with fail
      refine (l01Is_yes _ _ H.out).mono ?_
      rintro e w1 ⟨rfl, b1⟩
      go_wp2_with fail
      refine (l01In_no _ _ _ _ (by have := HK.out; omega)).mono ?_
      rintro e w2 ⟨rfl, b2⟩
      go_wp2_with fail
      go_ret2
      exact ⟨rfl, b1.then b2⟩
    · obtain ⟨n, rfl⟩ := Int.eq_ofNat_of_zero_le (show 0 ≤ k by omega)
      have hn : n ≤ 1000 := by omega
      clear hk
      have hmul : ((x.size * n : Nat) : Int) = (x.size : Int) * n := Int.natCast_mul _ _
      have hle : x.size * n ≤ 60 * 1000 := Nat.mul_le_mul h1 hn
      have m0 : (0 : Int) ≤ (x.size : Int) * n := by omega
      have m1 : (x.size : Int) * n ≤ 60000 := by omega
      by_cases hl : 60 < x.size * n
      · rw [powR_long h hn hl]
        have H := Lib.hid h
        have hl2 : (60 : Int) < (x.size : Int) * n := by omega
        clear h hmul hl hle
        go_enter Try.func64, Try.ntmps64
        go_wp2_with fail
        refine (l01Is_yes _ _ H.out).mono ?_
        rintro e w1 ⟨rfl, b1⟩
        go_wp2_with fail
        refine (l01In_yes _ _ _ _ (by omega) (by omega)).mono ?_
        rintro e w2 ⟨rfl, b2⟩
        go_wp2_with fail
        go_ret2
        exact ⟨rfl, b1.then b2⟩
      · rw [powR_ok h hn (by omega)]
        have H := Lib.hid h
        have HL : Hid (x.size * n ≤ 60) := Lib.hid (by omega)
        have hl2 : (x.size : Int) * n ≤ 60 := by omega
        clear h hmul hl hle
        by_cases hx : x.size = 0
        · obtain rfl : x = ⟨#[]⟩ := by
            apply ByteArray.ext
            exact Array.eq_empty_of_size_eq_zero hx
          rw [pow_empty]
          clear m0 m1 hl2 h1 hx sx
          go_enter Try.func64, Try.ntmps64
          go_wp2_with fail
          refine (l01Is_yes _ _ H.out).mono ?_
          rintro e w1 ⟨rfl, b1⟩
          go_wp2_with fail
          refine (l01In_yes _ _ _ _ (by omega) (by omega)).mono ?_
          rintro e w2 ⟨rfl, b2⟩
          have B2 := b1.then b2
          go_wp2_with fail
          refine wp_loop_rounds 1 ?_
          rw [rounds_succ]
          by_cases hn0 : 0 < n
          · go_wp2
            go_ret2
            exact ⟨rfl, B2⟩
          · go_wp2
            go_ret2
            exact ⟨rfl, B2⟩
        · have he : x.toList ≠ [] := by
            rw [Lib.toList_data]
            intro e
            apply hx
            show x.data.size = 0
            rw [← Array.length_toList, e]
            rfl
          have hne : (!x.toList.isEmpty) = true := by
            cases hq : x.toList with
            | nil => exact absurd hq he
            | cons a b => rfl
          have hxp : 0 < x.size := by omega
          clear he hx
          go_enter Try.func64, Try.ntmps64
          go_wp2_with fail
          refine (l01Is_yes _ _ H.out).mono ?_
          rintro e w1 ⟨rfl, b1⟩
          go_wp2_with fail
          refine (l01In_yes _ _ _ _ (by omega) (by omega)).mono ?_
          rintro e w2 ⟨rfl, b2⟩
          have B2 := b1.then b2
          clear b1 b2
          go_wp2_with fail
          go_loopw [1, 6] (fun q o wr => ∃ (j : Nat) (t : ByteArray), j ≤ n ∧ q = .int .i64 ((n : Int) - j) ∧ o = .string t ∧ t.size ≤ 60 ∧ Hid (t = pow x j) ∧ Below w.heap.size w wr) (fun q _ _ => (intOf q).toNat)
          case atStart => exact ⟨0, ⟨#[]⟩, Nat.zero_le _, by simp, rfl, by decide, Lib.hid (pow_zero x).symm, B2⟩
          case round =>
            obtain ⟨j, t, hj, rfl, rfl, ht, HT, hB⟩ := hrel
            by_cases hp : j < n
            · have hts : (t ++ x).size ≤ 60 := by
                rw [HT.out, pow_succ, pow_size]
                exact Nat.le_trans (Nat.mul_le_mul (Nat.le_refl _) (by omega)) HL.out
              have HTS := Lib.hid hts
              clear hts
              go_wp2
              go_roundw
              case rel => exact ⟨j + 1, t ++ x, by omega, by go_num, rfl, HTS.out, Lib.hid (by rw [HT.out, pow_succ]), hB⟩
              case measure => simp [intOf]; omega
            · have hke : n ≤ j := by omega
              have HE : Hid (j = n) := Lib.hid (by omega)
              go_wp2
              go_ret2
              exact ⟨by rw [HT.out, HE.out]; rfl, hB⟩
  · rw [powR_bad h]
    have H := Lib.hid h
    clear h
    go_enter Try.func64, Try.ntmps64
    go_wp2_with (go_at_call 117; refine (l01Is_no x _ sx H.out).mono ?_; rintro e w1 ⟨rfl, b1⟩)
    go_ret2
    exact ⟨rfl, b1⟩

end Go.Proofs.Ytlaefpmfbnldfab

/-! ### ProductS -/
namespace Go.Proofs.Ytlaefpmfbnldfab
set_option linter.unusedVariables false
open Go.RowKit

set_option maxRecDepth 100000 in
theorem l01Told_any (x : ByteArray) (w : World) (sx : x.size ≤ maxLen) :
    Calls Try.prog 131 #[.string x] w fun e w' => e = .returned (.tuple #[.string (if 60 < x.size then ⟨#[]⟩ else x), .int .i64 (if 60 < x.size then 3 else 0)]) ∧ Below w.heap.size w w' := by
  unfold maxLen at sx
  by_cases h : 60 < x.size
  · rw [if_pos h, if_pos h]
    go_enter Try.func131, Try.ntmps131
    go_wp2
    go_ret2
    exact ⟨rfl, Below.refl _ _⟩
  · rw [if_neg h, if_neg h]
    go_enter Try.func131, Try.ntmps131
    go_wp2
    go_ret2
    exact ⟨rfl, Below.refl _ _⟩

set_option maxRecDepth 100000 in
theorem spec_ProductOf (x y : ByteArray) (w : World) (sx : x.size ≤ maxLen) (sy : y.size ≤ maxLen) :
    Calls Try.prog 51 #[.string x, .string y] w fun e w' => e = .returned (.tuple #[.string (productR x y).1, .int .i64 (productR x y).2]) ∧ Below w.heap.size w w' := by
  by_cases h1 : IsW x
  · by_cases h2 : IsW y
    · have s1 := h1.size
      have s2 := h2.size
      have hz : (x ++ y).size = x.size + y.size := ByteArray.size_append
      have hr : productR x y = (if 60 < (x ++ y).size then ⟨#[]⟩ else x ++ y, if 60 < (x ++ y).size then 3 else 0) := by
        rw [hz]
        by_cases hl : 60 < x.size + y.size
        · rw [productR_long ⟨h1, h2⟩ hl, if_pos hl, if_pos hl]
        · rw [productR_ok ⟨h1, h2⟩ hl, if_neg hl, if_neg hl]
      rw [hr]
      have hzz : (x ++ y).size ≤ maxLen := by rw [hz]; unfold maxLen; omega
      have HZ := Lib.hid hz
      clear hr hz
      have H1 := Lib.hid h1
      have H2 := Lib.hid h2
      clear h1 h2
      generalize hg1 : (if 60 < (x ++ y).size then (⟨#[]⟩ : ByteArray) else x ++ y) = g1
      generalize hg2 : (if 60 < (x ++ y).size then (3 : Int) else 0) = g2
      have G1 := Lib.hid hg1
      have G2 := Lib.hid hg2
      clear hg1 hg2
      go_enter Try.func51, Try.ntmps51
      go_wp2_with fail
      refine (l01Is_yes x _ H1.out).mono ?_
      rintro e w1 ⟨rfl, b1⟩
      go_wp2_with fail
      refine (l01Is_yes y _ H2.out).mono ?_
      rintro e w2 ⟨rfl, b2⟩
      go_wp2_with fail
      refine (l01Told_any (x ++ y) _ hzz).mono ?_
      rintro e w3 ⟨rfl, b3⟩
      rw [G1.out, G2.out]
      go_wp2_with fail
      go_ret2
      exact ⟨rfl, (b1.trans (b2.mono b1.size)).trans (b3.mono (Nat.le_trans b1.size b2.size))⟩
    · rw [productR_bad (fun h => h2 h.2)]
      have H1 := Lib.hid h1
      have H2 := Lib.hid h2
      clear h1 h2
      go_enter Try.func51, Try.ntmps51
      go_wp2_with fail
      refine (l01Is_yes x _ H1.out).mono ?_
      rintro e w1 ⟨rfl, b1⟩
      go_wp2_with fail
      refine (l01Is_no y _ sy H2.out).mono ?_
      rintro e w2 ⟨rfl, b2⟩
      go_wp2_with fail
      go_ret2
      exact ⟨rfl, b1.trans (b2.mono b1.size)⟩
  · rw [productR_bad (fun h => h1 h.1)]
    have H1 := Lib.hid h1
    clear h1
    go_enter Try.func51, Try.ntmps51
    go_wp2_with (go_at_call 117; refine (l01Is_no x _ sx H1.out).mono ?_; rintro e w1 ⟨rfl, b1⟩)
    go_ret2
    exact ⟨rfl, b1⟩

end Go.Proofs.Ytlaefpmfbnldfab

/-! ### Product -/
namespace Go.Proofs.Ytlaefpmfbnldfab
set_option linter.unusedVariables false
open Go.RowKit

set_option maxRecDepth 100000 in
theorem impl_ProductOf (x y : ByteArray) (w : World) (sx : x.size ≤ maxLen) (sy : y.size ≤ maxLen) :
    Calls Try.prog 50 #[.string x, .string y] w fun e w' => e = .returned (.tuple #[.string (productR x y).1, .int .i64 (productR x y).2]) ∧ Below w.heap.size w w' := by
  by_cases h : IsW x ∧ IsW y
  · have h1 := h.1.size
    have h2 := h.2.size
    by_cases hl : 60 < x.size + y.size
    · rw [productR_long h hl]
      have H := Lib.hid h
      clear h
      go_enter Try.func50, Try.ntmps50
      go_wp2_with (go_at_call 130; refine (areWords2_yes _ x y _ (by simp) (by simp [go_sem]) (by simp [go_sem]) H.out.1 H.out.2).mono ?_; rintro e w1 ⟨rfl, b1⟩)
      go_ret2
      exact ⟨rfl, ((Below.refl _ _).alloc (Nat.le_refl _) _).trans (b1.mono (by simp))⟩
    · rw [productR_ok h hl]
      have H := Lib.hid h
      clear h
      go_enter Try.func50, Try.ntmps50
      go_wp2_with (first | (go_at_call 130; refine (areWords2_yes _ x y _ (by simp) (by simp [go_sem]) (by simp [go_sem]) H.out.1 H.out.2).mono ?_; rintro e w1 ⟨rfl, b1⟩) | (go_at_call 113; refine (strings_Clone _ _ (by simp; omega)).mono ?_; rintro e w2 ⟨rfl, b2⟩))
      go_ret2
      exact ⟨rfl, (((Below.refl _ _).alloc (Nat.le_refl _) _).trans (b1.mono (by simp))).trans (b2.mono (by have := b1.size; simp at this; omega))⟩
  · rw [productR_bad h]
    have H := Lib.hid h
    clear h
    go_enter Try.func50, Try.ntmps50
    go_wp2_with (go_at_call 130; refine (areWords2_no _ x y _ (by simp) (by simp [go_sem]) (by simp [go_sem]) sx sy H.out).mono ?_; rintro e w1 ⟨rfl, b1⟩)
    go_ret2
    exact ⟨rfl, ((Below.refl _ _).alloc (Nat.le_refl _) _).trans (b1.mono (by simp))⟩

end Go.Proofs.Ytlaefpmfbnldfab

/-! ### RenamePlain -/
namespace Go.Proofs.Ytlaefpmfbnldfab
set_option linter.unusedVariables false
set_option linter.unusedSimpArgs false
open Go.RowKit

def renL (x : ByteArray) (L : List Int) : List Int := (numsR x).map fun n => L.getD n.toNat 0
theorem renL_len (x : ByteArray) (L : List Int) : (renL x L).length = x.size := by unfold renL; rw [List.length_map, numsR_len]
theorem renL_get (x : ByteArray) (L : List Int) (k : Nat) (h : k < (renL x L).length) (h' : k < x.size) : (renL x L)[k]'h = L.getD (((x[k]'h').toNat : Int) - 97).toNat 0 := by
  have h2 : k < ((numsR x).map fun n => L.getD n.toNat 0).length := h
  have h3 : k < (numsR x).length := by rw [numsR_len]; exact h'
  have e : ((numsR x).map fun n => L.getD n.toNat 0)[k]'h2 = L.getD ((numsR x)[k]'h3).toNat 0 := List.getElem_map ..
  rw [numsR_get x k h3 h'] at e
  exact e
theorem renL_ok {x : ByteArray} {L : List Int} (hx : IsW x) (hL : L.length = 5) (h : okN L) : okN (renL x L) := by
  intro j hj
  have hj' : j < x.size := by rw [← renL_len x L]; exact hj
  rw [renL_get x L j hj hj']
  have h1 := hx.lo j hj'
  have h2 := hx.hi j hj'
  have h3 : (((x[j]'hj').toNat : Int) - 97).toNat < L.length := by omega
  rw [List.getD_eq_getElem?_getD, List.getElem?_eq_getElem h3]
  exact h _ h3
def mixL (R N : List Int) (k : Nat) : List Int := R.take k ++ N.drop k
theorem mixL_len (R N : List Int) (k : Nat) (h : R.length = N.length) (hk : k ≤ N.length) : (mixL R N k).length = N.length := by simp [mixL]; omega
theorem mixL_zero (R N : List Int) : mixL R N 0 = N := by simp [mixL]
theorem mixL_end (R N : List Int) (h : R.length = N.length) : mixL R N N.length = R := by simp [mixL, ← h]
theorem mixL_get (R N : List Int) (k : Nat) (h : R.length = N.length) (hk : k < N.length) (h2 : k < (mixL R N k).length) : (mixL R N k)[k]'h2 = N[k]'hk := by
  have h1 : (R.take k).length = k := by simp; omega
  have h3 : k < (R.take k ++ N.drop k).length := h2
  have e : (R.take k ++ N.drop k)[k]'h3 = N[k]'hk := by
    rw [List.getElem_append_right (by omega)]
    simp [h1]
  exact e
theorem mixL_step (R N : List Int) (k : Nat) (h : R.length = N.length) (hk : k < R.length) : ((mixL R N k).map (Value.int .i64)).set k (.int .i64 (R[k]'hk)) = (mixL R N (k + 1)).map (Value.int .i64) := by
  have h1 : (R.take k).length = k := by simp; omega
  have h2 : (R.take (k + 1)).length = k + 1 := by simp; omega
  apply List.ext_getElem
  · simp [mixL]; omega
  · intro i h3 h4
    simp only [List.getElem_set, List.getElem_map]
    by_cases e : k = i
    · subst e
      rw [if_pos rfl]
      congr 1
      unfold mixL
      rw [List.getElem_append_left (by omega), List.getElem_take]
    · rw [if_neg e]
      congr 1
      unfold mixL
      simp only [List.getElem_append, h1, h2]
      by_cases h5 : i < k
      · rw [dif_pos h5, dif_pos (by omega)]
        simp
      · rw [dif_neg h5, dif_neg (by omega)]
        simp only [List.getElem_drop]
        congr 1
        omega
def renR (x : ByteArray) (L : List Int) : ByteArray × Int := if ¬ IsW x then (tE, 1) else if L.length ≠ 5 ∨ ¬ okN L then (tE, 2) else (wordB (renL x L), 0)
theorem renR_bad {x : ByteArray} {L : List Int} (h : ¬ IsW x) : renR x L = (⟨#[]⟩, 1) := if_pos h
theorem renR_out {x : ByteArray} {L : List Int} (h : IsW x) (h2 : L.length ≠ 5 ∨ ¬ okN L) : renR x L = (⟨#[]⟩, 2) := by unfold renR; rw [if_neg (not_not_intro h), if_pos h2]; rfl
theorem renR_ok {x : ByteArray} {L : List Int} (h : IsW x) (h5 : L.length = 5) (h2 : okN L) : renR x L = (wordB (renL x L), 0) := by
  unfold renR
  rw [if_neg (not_not_intro h), if_neg (by intro h3; rcases h3 with h3 | h3; exact h3 h5; exact h3 h2)]
theorem letB_byte {n : Int} (h0 : 0 ≤ n) (h4 : n ≤ 4) : Lib.byteCells [letB n] = [Value.int .u8 (97 + n)] := by
  simp [Lib.byteCells, letB_nat h0 h4]

end Go.Proofs.Ytlaefpmfbnldfab

/-! ### Rename -/
namespace Go.Proofs.Ytlaefpmfbnldfab
set_option linter.unusedVariables false
set_option linter.unusedSimpArgs false
open Go.RowKit

set_option maxRecDepth 100000 in
set_option maxHeartbeats 2000000 in
theorem impl_RenameLetters (x : ByteArray) (B : Nat) (v : Value) (L : List Int) (w : World) (sx : x.size ≤ maxLen) (h : OwnI w B v L) (hl : L.length ≤ 1048576) :
    Calls Try.prog 66 #[.string x, v] w fun e w' => e = .returned (.tuple #[.string (renR x L).1, .int .i64 (renR x L).2]) ∧ Below w.heap.size w w' := by
  by_cases hx : IsW x
  · have h1 := hx.size
    have HX := Lib.hid hx
    have hv : ∃ a c, v = .slice a L.length c := by
      rcases own_forms h with ⟨rfl, h0, _⟩ | ⟨g, cap, rfl, _⟩
      · exact ⟨none, 0, by rw [h0]⟩
      · exact ⟨_, _, rfl⟩
    by_cases h5 : L.length = 5
    · by_cases hok : okN L
      · rw [renR_ok hx h5 hok]
        have OK := Lib.hid hok
        have H := Lib.hid h
        obtain ⟨gp, cp, rfl, _, hgp, hcp, _, cell, _⟩ := h.row (by omega)
        have C := Lib.hid cell
        have hd5 : ((L.length : Int) != 5) = false := by rw [h5]; rfl
        have H5 := Lib.hid h5
        have hcp5 : 5 ≤ cp := by omega
        clear hx hok h cell hv h5
        go_enter Try.func66, Try.ntmps66
        go_wp2_with fail
        refine (isWord_yes x _ HX.out).mono ?_
        rintro e w1 ⟨rfl, b1⟩
        go_wp2_with fail
        refine (areLN_yes _ _ L _ (H.out.below b1) hl OK.out).mono ?_
        rintro e w2 ⟨rfl, b2⟩
        go_wp2_with fail
        refine (numbersOf_any x _ HX.out).mono ?_
        rintro e w3 ⟨nv, rfl, o3, b3⟩
        have B2 := b1.then b2
        have B3 := B2.then b3
        have hb2 := B2.size
        have hok2 := renL_ok HX.out H5.out OK.out
        have OK2 := Lib.hid hok2
        clear b1 b2 b3 hok2
        by_cases h0 : x.size = 0
        · have hN : numsR x = [] := List.eq_nil_of_length_eq_zero (by rw [numsR_len, h0])
          have hR : renL x L = [] := List.eq_nil_of_length_eq_zero (by rw [renL_len, h0])
          rw [hN] at o3
          have HR := Lib.hid hR
          have O3 := Lib.hid o3
          obtain ⟨na, nc, rfl⟩ := o3.empty
          clear o3 hN hR h0
          go_wp2_with fail
          refine wp_loop_rounds 1 ?_
          rw [rounds_succ]
          go_wp2_with fail
          refine (wordOf_any _ _ [] _ O3.out (by simp) okN_nil).mono ?_
          rintro e w4 ⟨rfl, b4⟩
          go_wp2_with fail
          go_ret2
          exact ⟨by rw [HR.out]; rfl, B3.then b4⟩
        · have hNl := numsR_len x
          have hRl := renL_len x L
          have O3 := Lib.hid o3
          obtain ⟨gn, cn, hnv, hgn1, hgn2, hcn, _, ncell, _⟩ := o3.row (by omega)
          rw [hNl] at hnv hcn
          subst hnv
          have NL := Lib.hid hNl
          have RL := Lib.hid hRl
          clear o3 ncell hNl hRl h0
          go_wp2_with fail
          go_loopw [24] (fun i wr => ∃ k : Nat, k ≤ x.size ∧ i = .int .i64 k ∧ wr.ownsRow w2.heap.size 2 1 (.slice (some ⟨gn, 0, none⟩) x.size cn) x.size ((mixL (renL x L) (numsR x) k).map (Value.int .i64)) ∧ Below w.heap.size w wr) (fun i _ => x.size - (intOf i).toNat)
          case atStart =>
            refine ⟨0, Nat.zero_le _, rfl, ?_, B3⟩
            rw [mixL_zero]
            have h3 := O3.out
            unfold OwnI at h3
            rw [NL.out] at h3
            exact h3
          case round =>
            obtain ⟨k, hk, rfl, hown, hB⟩ := hrel
            clear B3
            by_cases hp : k < x.size
            · have hlo := HX.out.lo k hp
              have hhi := HX.out.hi k hp
              have hNl := NL.out
              have hRl := RL.out
              have hml := mixL_len (renL x L) (numsR x) k (by omega) (by omega)
              have k1 : wr.cell? ⟨gn, k, none⟩ = some (.int .i64 (((x[k]'hp).toNat : Int) - 97)) := by
                rw [hown.cellAt k (by omega)]
                rw [List.getElem?_eq_getElem (by rw [List.length_map]; omega), List.getElem_map, mixL_get _ _ k (by omega) (by omega), numsR_get x k _ hp]
              have k2 : wr.frozen? ⟨gn, k, none⟩ = false := hown.frozenAt k
              obtain ⟨n, hn⟩ : ∃ n : Nat, ((x[k]'hp).toNat : Int) = (n : Int) + 97 := ⟨(x[k]'hp).toNat - 97, by omega⟩
              have hn4 : n ≤ 4 := by omega
              have h5 := H5.out
              have hnL : n < L.length := by omega
              have k3 : wr.cell? ⟨gp, n, none⟩ = some (.int .i64 (L[n]'hnL)) := by
                rw [(bcell hB).1 gp n hgp]; exact C.out n hnL
              have hst := hown.stored k (.int .i64 ((renL x L)[k]'(by omega)))
              rw [mixL_step _ _ k (by omega) (by omega), renL_get x L k (by omega) hp] at hst
              have e1 : ((x[k]'hp).toNat : Int) - 97 = n := by omega
              rw [e1] at k1 hst
              rw [Int.toNat_natCast, List.getD_eq_getElem?_getD, List.getElem?_eq_getElem hnL, Option.getD_some] at hst
              generalize L[n]'hnL = z at k3 hst
              have HS := Lib.hid hst
              have hgb : w.heap.size ≤ gn := by omega
              have hne : gn ≠ gp := by omega
              have hnc : n < cp := by omega
              have hkc : k < cn := by omega
              clear hst hown e1 hn hNl hRl hml h5
              go_wp2_with fail
              go_roundw
              case rel => exact ⟨k + 1, by omega, by go_num, HS.out.1, hB.setCell (p := ⟨gn, k, none⟩) hgb _⟩
              case measure => simp [intOf]; omega
            · have hke : k = x.size := by omega
              subst hke
              have ho : OwnI wr w2.heap.size (.slice (some ⟨gn, 0, none⟩) x.size cn) (renL x L) := by
                have h3 := hown
                rw [show mixL (renL x L) (numsR x) x.size = renL x L by rw [← NL.out]; exact mixL_end _ _ (by rw [NL.out, RL.out])] at h3
                unfold OwnI
                rw [RL.out]
                exact h3
              have HO := Lib.hid ho
              clear hown ho
              go_wp2_with fail
              refine (wordOf_any _ _ (renL x L) _ HO.out (by rw [RL.out]; exact h1) OK2.out).mono ?_
              rintro e w4 ⟨rfl, b4⟩
              go_wp2_with fail
              go_ret2
              exact ⟨rfl, hB.then b4⟩
      · rw [renR_out hx (.inr hok)]
        obtain ⟨a, c, rfl⟩ := hv
        have HOK := Lib.hid hok
        have H := Lib.hid h
        have hd5 : ((L.length : Int) != 5) = false := by rw [h5]; rfl
        clear hx hok h h5
        go_enter Try.func66, Try.ntmps66
        go_wp2_with fail
        refine (isWord_yes x _ HX.out).mono ?_
        rintro e w1 ⟨rfl, b1⟩
        go_wp2_with fail
        refine (areLN_no _ _ L _ (H.out.below b1) hl HOK.out).mono ?_
        rintro e w2 ⟨rfl, b2⟩
        go_wp2_with fail
        go_ret2
        exact ⟨rfl, b1.then b2⟩
    · rw [renR_out hx (.inl h5)]
      obtain ⟨a, c, rfl⟩ := hv
      have hd5 : ((L.length : Int) != 5) = true := by rw [bne_iff_ne]; omega
      clear hx h h5
      go_enter Try.func66, Try.ntmps66
      go_wp2_with fail
      refine (isWord_yes x _ HX.out).mono ?_
      rintro e w1 ⟨rfl, b1⟩
      go_wp2_with fail
      go_ret2
      exact ⟨rfl, b1⟩
  · rw [renR_bad hx]
    have HX := Lib.hid hx
    clear hx h
    go_enter Try.func66, Try.ntmps66
    go_wp2_with fail
    refine (isWord_not x _ sx HX.out).mono ?_
    rintro e w1 ⟨rfl, b1⟩
    go_wp2_with fail
    go_ret2
    exact ⟨rfl, b1⟩

set_option maxRecDepth 100000 in
set_option maxHeartbeats 2000000 in
theorem l01Renamed_any (x : ByteArray) (B : Nat) (v : Value) (L : List Int) (w : World) (hx : IsW x) (h : OwnI w B v L) (h5 : L.length = 5) (hok : okN L) :
    Calls Try.prog 138 #[.string x, v] w fun e w' => e = .returned (.string (wordB (renL x L))) ∧ Below w.heap.size w w' := by
  obtain ⟨i0, hi, hz0, hz1, hz2⟩ := info_parts infoU8
  have h1 := hx.size
  obtain ⟨gp, cp, rfl, _, hgp, hcp, _, cell, _⟩ := h.row (by omega)
  have C := Lib.hid cell
  have HX := Lib.hid hx
  have H5 := Lib.hid h5
  have hcp5 : 5 ≤ cp := by omega
  have OK := Lib.hid hok
  have OK2 := Lib.hid (renL_ok hx h5 hok)
  have RL := Lib.hid (renL_len x L)
  clear hx h cell h5 hok
  go_enter Try.func138, Try.ntmps138
  go_wp2
  go_loopw [5, 6] (fun v i wr => ∃ k : Nat, k ≤ x.size ∧ i = .int .i64 k ∧ wr.ownsRow w.heap.size 5 1 v k (Lib.byteCells (wordL ((renL x L).take k))) ∧ Below w.heap.size w wr)
    (fun _ i _ => x.size - (intOf i).toNat)
  case atStart =>
    refine ⟨0, Nat.zero_le _, rfl, ?_, Below.new _ _⟩
    exact World.ownsRow_lit w #[] 0 (Nat.le_refl _) (by decide) (by simp)
  case round =>
    rename_i u5 _ _
    obtain ⟨k, hk, rfl, hown, hB⟩ := hrel
    by_cases hp : k < x.size
    · have hlo := HX.out.lo k hp
      have hhi := HX.out.hi k hp
      have hRl := RL.out
      obtain ⟨n, hn⟩ : ∃ n : Nat, ((x[k]'hp).toNat : Int) = (n : Int) + 97 := ⟨(x[k]'hp).toNat - 97, by omega⟩
      have hn4 : n ≤ 4 := by omega
      have h5 := H5.out
      have hnL : n < L.length := by omega
      have hokn := OK.out n hnL
      have k3 : wr.cell? ⟨gp, n, none⟩ = some (.int .i64 (L[n]'hnL)) := by
        rw [(bcell hB).1 gp n hgp]; exact C.out n hnL
      have hsn := wordL_snoc (renL x L) k (by omega)
      have e1 : ((x[k]'hp).toNat : Int) - 97 = n := by omega
      rw [renL_get x L k (by omega) hp, e1, Int.toNat_natCast, List.getD_eq_getElem?_getD, List.getElem?_eq_getElem hnL, Option.getD_some] at hsn
      have hbc := letB_byte hokn.1 hokn.2
      have HS : Hid (Lib.byteCells (wordL ((renL x L).take k)) ++ [Value.int .u8 (97 + L[n]'hnL)] = Lib.byteCells (wordL ((renL x L).take (k + 1)))) := Lib.hid (by rw [← hbc, ← Lib.byteCells_append, hsn])
      have E1 := Lib.hid e1
      have K3 := Lib.hid k3
      clear hsn hbc e1 hn hRl h5 k3
      generalize hzz : L[n]'hnL = z at *
      clear hzz
      obtain ⟨o1, o2⟩ := hokn
      have hnc : n < cp := by omega
      go_wp2_with fail
      refine (l01At_any x k _ hp h1).mono ?_
      rintro e w2 ⟨rfl, b2⟩
      rw [E1.out]
      have k3 : w2.cell? ⟨gp, n, none⟩ = some (.int .i64 z) := by
        rw [(bcell b2).1 gp n (Nat.lt_of_lt_of_le hgp hB.size)]; exact K3.out
      have hown := own_below hown b2
      have hB := hB.then b2
      have hbz := hB.size
      go_wp2_with (at_builtin; refine wpList_append_own _ rfl _ _ 25 rfl w.heap.size 5 i0 (.int .u8 0) 1 1 Try.underlying25 hi hz0 hz1 hz2 rfl (by decide) _ _ _ rfl (hown.alloc _) ⟨_, 0, none⟩ 1 1 [.int .u8 (97 + z)] rfl rfl (cell_new _ _ _) (by intro u hu; simp at hu; subst hu; rfl) (by unfold maxLen; omega) (by omega) (by simp; omega) ?_; intro v' w3 hown' hgrow _)
      go_roundw
      case rel =>
        refine ⟨k + 1, by omega, by go_num, by rw [← HS.out]; exact hown', ?_⟩
        exact (hB.alloc hbz _).grown hgrow (by simp; omega) (fun q hq => (hown.lt q hq).1)
      case measure => simp [intOf]; omega
    · have hke : x.size ≤ k := by omega
      have hcv : (convert 25 9 u5).run Try.prog wr = .ok (.string (wordB (renL x L))) wr := by
        have hkk : k = (wordL (renL x L)).length := by
          have := RL.out
          simp only [wordL, List.length_map]
          omega
        have h2 := hown
        rw [List.take_of_length_le (by rw [RL.out]; exact hke)] at h2
        rw [hkk] at h2
        exact text_of_own h2
      clear hown
      go_wp2
      go_ret
      exact ⟨rfl, hB⟩

set_option maxRecDepth 100000 in
set_option maxHeartbeats 2000000 in
theorem spec_RenameLetters (x : ByteArray) (B : Nat) (v : Value) (L : List Int) (w : World) (sx : x.size ≤ maxLen) (h : OwnI w B v L) (hl : L.length ≤ 1048576) :
    Calls Try.prog 67 #[.string x, v] w fun e w' => e = .returned (.tuple #[.string (renR x L).1, .int .i64 (renR x L).2]) ∧ Below w.heap.size w w' := by
  by_cases hx : IsW x
  · have h1 := hx.size
    have HX := Lib.hid hx
    have hv : ∃ a c, v = .slice a L.length c := by
      rcases own_forms h with ⟨rfl, h0, _⟩ | ⟨g, cap, rfl, _⟩
      · exact ⟨none, 0, by rw [h0]⟩
      · exact ⟨_, _, rfl⟩
    by_cases h5 : L.length = 5
    · by_cases hok : okN L
      · rw [renR_ok hx h5 hok]
        have OK := Lib.hid hok
        have H := Lib.hid h
        obtain ⟨gp, cp, rfl, _, hgp, hcp, _, cell, _⟩ := h.row (by omega)
        have C := Lib.hid cell
        have hd5 : ((L.length : Int) != 5) = false := by rw [h5]; rfl
        have H5 := Lib.hid h5
        have hcp5 : 5 ≤ cp := by omega
        clear hx hok h cell hv h5
        go_enter Try.func67, Try.ntmps67
        go_wp2_with fail
        refine (l01Is_yes x _ HX.out).mono ?_
        rintro e w1 ⟨rfl, b1⟩
        go_wp2_with fail
        refine (l01Ls_yes _ _ L _ (H.out.below b1) hl OK.out).mono ?_
        rintro e w2 ⟨rfl, b2⟩
        go_wp2_with fail
        refine (l01Renamed_any x _ _ L _ HX.out ((H.out.below b1).below b2) H5.out OK.out).mono ?_
        rintro e w3 ⟨rfl, b3⟩
        go_wp2_with fail
        go_ret2
        exact ⟨rfl, (b1.then b2).then b3⟩
      · rw [renR_out hx (.inr hok)]
        obtain ⟨a, c, rfl⟩ := hv
        have HOK := Lib.hid hok
        have H := Lib.hid h
        have hd5 : ((L.length : Int) != 5) = false := by rw [h5]; rfl
        clear hx hok h h5
        go_enter Try.func67, Try.ntmps67
        go_wp2_with fail
        refine (l01Is_yes x _ HX.out).mono ?_
        rintro e w1 ⟨rfl, b1⟩
        go_wp2_with fail
        refine (l01Ls_no _ _ L _ (H.out.below b1) hl HOK.out).mono ?_
        rintro e w2 ⟨rfl, b2⟩
        go_wp2_with fail
        go_ret2
        exact ⟨rfl, b1.then b2⟩
    · rw [renR_out hx (.inl h5)]
      obtain ⟨a, c, rfl⟩ := hv
      have hd5 : ((L.length : Int) != 5) = true := by rw [bne_iff_ne]; omega
      clear hx h h5
      go_enter Try.func67, Try.ntmps67
      go_wp2_with fail
      refine (l01Is_yes x _ HX.out).mono ?_
      rintro e w1 ⟨rfl, b1⟩
      go_wp2_with fail
      go_ret2
      exact ⟨rfl, b1⟩
  · rw [renR_bad hx]
    have HX := Lib.hid hx
    clear hx h
    go_enter Try.func67, Try.ntmps67
    go_wp2_with fail
    refine (l01Is_no x _ sx HX.out).mono ?_
    rintro e w1 ⟨rfl, b1⟩
    go_wp2_with fail
    go_ret2
    exact ⟨rfl, b1⟩

end Go.Proofs.Ytlaefpmfbnldfab

/-! ### CmpPlain -/
namespace Go.Proofs.Ytlaefpmfbnldfab
set_option linter.unusedVariables false
set_option linter.unusedSimpArgs false
open Go.RowKit

theorem cmp_lists : ∀ (a b : List UInt8), Lib.compareBytes a b = if a < b then -1 else if b < a then 1 else 0
  | [], [] => by simp [Lib.compareBytes]
  | [], _ :: _ => by simp [Lib.compareBytes]
  | _ :: _, [] => by simp [Lib.compareBytes]
  | a :: xs, b :: ys => by
    rw [Lib.compareBytes, cmp_lists xs ys]
    simp only [List.cons_lt_cons_iff]
    by_cases h1 : a < b
    · simp [h1]
    · by_cases h2 : b < a
      · have hne : ¬ a = b := fun e => by subst e; exact h1 h2
        simp [h1, h2, hne]
      · have he : a = b := UInt8.le_antisymm (UInt8.not_lt.1 h2) (UInt8.not_lt.1 h1)
        subst he
        simp [UInt8.lt_irrefl]
def cmpR (x y : ByteArray) : Int × Int := if ¬ (IsW x ∧ IsW y) then (0, 1) else (Lib.compareBytes x.data.toList y.data.toList, 0)
theorem cmpR_bad {x y : ByteArray} (h : ¬ (IsW x ∧ IsW y)) : cmpR x y = (0, 1) := if_pos h
theorem cmpR_ok {x y : ByteArray} (h : IsW x ∧ IsW y) : cmpR x y = (Lib.compareBytes x.data.toList y.data.toList, 0) := by unfold cmpR; rw [if_neg (not_not_intro h)]

end Go.Proofs.Ytlaefpmfbnldfab

/-! ### Cmp -/
namespace Go.Proofs.Ytlaefpmfbnldfab
set_option linter.unusedVariables false
set_option linter.unusedSimpArgs false
open Go.RowKit

set_option maxRecDepth 100000 in
theorem impl_CompareWords (x y : ByteArray) (w : World) (sx : x.size ≤ maxLen) (sy : y.size ≤ maxLen) :
    Calls Try.prog 69 #[.string x, .string y] w fun e w' => e = .returned (.tuple #[.int .i64 (cmpR x y).1, .int .i64 (cmpR x y).2]) ∧ Below w.heap.size w w' := by
  by_cases h : IsW x ∧ IsW y
  · have s1 := h.1.size
    have s2 := h.2.size
    rw [cmpR_ok h]
    have H := Lib.hid h
    clear h
    generalize hg : Lib.compareBytes x.data.toList y.data.toList = c
    have G := Lib.hid hg
    clear hg
    go_enter Try.func69, Try.ntmps69
    go_wp2_with (first | (go_at_call 130; refine (areWords2_yes _ x y _ (by simp) (by simp [go_sem]) (by simp [go_sem]) H.out.1 H.out.2).mono ?_; rintro e w1 ⟨rfl, b1⟩) | (go_at_call 139; refine (Try.strings_Compare x y _).mono ?_; rintro e w2 ⟨rfl, hw2⟩; rw [G.out]; subst hw2))
    go_ret2
    exact ⟨rfl, (Below.new w _).then b1⟩
  · rw [cmpR_bad h]
    have H := Lib.hid h
    clear h
    go_enter Try.func69, Try.ntmps69
    go_wp2_with (go_at_call 130; refine (areWords2_no _ x y _ (by simp) (by simp [go_sem]) (by simp [go_sem]) sx sy H.out).mono ?_; rintro e w1 ⟨rfl, b1⟩)
    go_ret2
    exact ⟨rfl, (Below.new _ _).then b1⟩

set_option maxRecDepth 100000 in
theorem spec_CompareWords (x y : ByteArray) (w : World) (sx : x.size ≤ maxLen) (sy : y.size ≤ maxLen) :
    Calls Try.prog 70 #[.string x, .string y] w fun e w' => e = .returned (.tuple #[.int .i64 (cmpR x y).1, .int .i64 (cmpR x y).2]) ∧ Below w.heap.size w w' := by
  by_cases h1 : IsW x
  · by_cases h2 : IsW y
    · have s1 := h1.size
      have s2 := h2.size
      rw [cmpR_ok ⟨h1, h2⟩, cmp_lists]
      have H1 := Lib.hid h1
      have H2 := Lib.hid h2
      clear h1 h2
      by_cases k1 : x.data.toList < y.data.toList
      · rw [if_pos k1]
        have d1 : Op.bytesLess x.toList y.toList = true := by rw [Proofs.bytesLess_eq, Lib.toList_data, Lib.toList_data]; simpa using k1
        clear k1
        go_enter Try.func70, Try.ntmps70
        go_wp2_with fail
        refine (l01Is_yes x _ H1.out).mono ?_
        rintro e w1 ⟨rfl, b1⟩
        go_wp2_with fail
        refine (l01Is_yes y _ H2.out).mono ?_
        rintro e w2 ⟨rfl, b2⟩
        have B2 := b1.then b2
        clear b1 b2
        go_wp2_with fail
        go_ret2
        exact ⟨rfl, B2⟩
      · by_cases k2 : y.data.toList < x.data.toList
        · rw [if_neg k1, if_pos k2]
          have d1 : Op.bytesLess x.toList y.toList = false := by rw [Proofs.bytesLess_eq, Lib.toList_data, Lib.toList_data]; simpa using k1
          have d2 : (x.toList == y.toList) = false := by
            rw [Lib.toList_data, Lib.toList_data, beq_eq_false_iff_ne]
            intro e
            rw [e] at k2
            exact List.lt_irrefl _ k2
          clear k1 k2
          go_enter Try.func70, Try.ntmps70
          go_wp2_with fail
          refine (l01Is_yes x _ H1.out).mono ?_
          rintro e w1 ⟨rfl, b1⟩
          go_wp2_with fail
          refine (l01Is_yes y _ H2.out).mono ?_
          rintro e w2 ⟨rfl, b2⟩
          have B2 := b1.then b2
          clear b1 b2
          go_wp2_with fail
          go_ret2
          exact ⟨rfl, B2⟩
        · rw [if_neg k1, if_neg k2]
          have d1 : Op.bytesLess x.toList y.toList = false := by rw [Proofs.bytesLess_eq, Lib.toList_data, Lib.toList_data]; simpa using k1
          have d2 : (x.toList == y.toList) = true := by
            rw [Lib.toList_data, Lib.toList_data, beq_iff_eq]
            exact List.le_antisymm (List.not_lt.1 k2) (List.not_lt.1 k1)
          clear k1 k2
          go_enter Try.func70, Try.ntmps70
          go_wp2_with fail
          refine (l01Is_yes x _ H1.out).mono ?_
          rintro e w1 ⟨rfl, b1⟩
          go_wp2_with fail
          refine (l01Is_yes y _ H2.out).mono ?_
          rintro e w2 ⟨rfl, b2⟩
          have B2 := b1.then b2
          clear b1 b2
          go_wp2_with fail
          go_ret2
          exact ⟨rfl, B2⟩
    · rw [cmpR_bad (fun h => h2 h.2)]
      have H1 := Lib.hid h1
      have H2 := Lib.hid h2
      clear h1 h2
      go_enter Try.func70, Try.ntmps70
      go_wp2_with fail
      refine (l01Is_yes x _ H1.out).mono ?_
      rintro e w1 ⟨rfl, b1⟩
      go_wp2_with fail
      refine (l01Is_no y _ sy H2.out).mono ?_
      rintro e w2 ⟨rfl, b2⟩
      go_wp2_with fail
      go_ret2
      exact ⟨rfl, b1.then b2⟩
  · rw [cmpR_bad (fun h => h1 h.1)]
    have H1 := Lib.hid h1
    clear h1
    go_enter Try.func70, Try.ntmps70
    go_wp2_with (go_at_call 117; refine (l01Is_no x _ sx H1.out).mono ?_; rintro e w1 ⟨rfl, b1⟩)
    go_ret2
    exact ⟨rfl, b1⟩

end Go.Proofs.Ytlaefpmfbnldfab

/-! ### Common -/
namespace Go.Proofs.Ytlaefpmfbnldfab
set_option linter.unusedVariables false
open Go.RowKit

set_option maxRecDepth 100000 in
theorem l01Common_any (x y : ByteArray) (w : World) (sx : x.size ≤ 60) (sy : y.size ≤ 60) :
    Calls Try.prog 140 #[.string x, .string y] w fun e w' => e = .returned (.int .i64 (comN x y)) ∧ Below w.heap.size w w' := by
  go_enter Try.func140, Try.ntmps140
  go_wp2
  go_loopw [5] (fun i wr => ∃ k f : Nat, k ≤ x.size ∧ k ≤ y.size ∧ i = .int .i64 k ∧ Below w.heap.size w wr ∧ comFrom x y f k = comN x y ∧ x.size ≤ k + f) (fun i _ => x.size - (intOf i).toNat)
  case atStart => exact ⟨0, x.size, Nat.zero_le _, Nat.zero_le _, rfl, Below.refl _ _, rfl, by omega⟩
  case round =>
    obtain ⟨k, f, hx, hy, rfl, hB, hc, hf⟩ := hrel
    have HC := Lib.hid hc
    clear hc
    by_cases h1 : k < x.size
    · by_cases h2 : k < y.size
      · by_cases he : x[k]'h1 = y[k]'h2
        · have hd : (((x[k]'h1).toNat : Int) == ((y[k]'h2).toNat : Int)) = true := by rw [he]; simp
          obtain ⟨g, rfl⟩ : ∃ g, f = g + 1 := ⟨f - 1, by omega⟩
          have HE := Lib.hid he
          clear he
          go_wp2
          go_quiet (fail)
          go_wp2
          go_roundw
          case rel => exact ⟨k + 1, g, by omega, by omega, by go_num, hB.drewN _, by rw [← HC.out, comFrom_eq h1 h2 HE.out], by omega⟩
          case measure => simp [intOf]; omega
        · have hd : (((x[k]'h1).toNat : Int) == ((y[k]'h2).toNat : Int)) = false := by
            rw [beq_eq_false_iff_ne]; intro h; exact he (byte_eq_iff.1 h)
          have hk : comN x y = k := by rw [← HC.out, comFrom_ne h1 h2 he]
          have HK := Lib.hid hk
          clear hk he
          go_wp2
          go_quiet (fail)
          go_wp2
          go_ret
          exact ⟨by rw [HK.out]; rfl, hB.drewN _⟩
      · have hk : comN x y = k := by rw [← HC.out, comFrom_end (fun h => h2 h.2)]
        have HK := Lib.hid hk
        have hd : decide ((k : Int) < (y.size : Int)) = false := by simp; omega
        clear hk
        go_wp2
        go_quiet (fail)
        go_wp2
        go_ret
        exact ⟨by rw [HK.out]; rfl, hB.drewN _⟩
    · have hk : comN x y = k := by rw [← HC.out, comFrom_end (fun h => h1 h.1)]
      have HK := Lib.hid hk
      have hd : decide ((k : Int) < (x.size : Int)) = false := by simp; omega
      clear hk
      go_wp2
      go_quiet (fail)
      go_wp2
      go_ret
      exact ⟨by rw [HK.out]; rfl, hB.drewN _⟩

set_option maxRecDepth 100000 in
set_option maxHeartbeats 1000000 in
theorem impl_CommonBeginning (x y : ByteArray) (w : World) (sx : x.size ≤ maxLen) (sy : y.size ≤ maxLen) :
    Calls Try.prog 58 #[.string x, .string y] w fun e w' => e = .returned (.tuple #[.string (beginR x y).1, .int .i64 (beginR x y).2]) ∧ Below w.heap.size w w' := by
  by_cases h : IsW x ∧ IsW y
  · have s1 := h.1.size
    have s2 := h.2.size
    rw [beginR_ok h]
    have H := Lib.hid h
    clear h
    go_enter Try.func58, Try.ntmps58
    go_wp2_with (go_at_call 130; refine (areWords2_yes _ x y _ (by simp) (by simp [go_sem]) (by simp [go_sem]) H.out.1 H.out.2).mono ?_; rintro e w1 ⟨rfl, b1⟩)
    have B1 := (Below.new w _).then b1
    clear b1
    go_loopw [6] (fun i wr => ∃ k f : Nat, k ≤ x.size ∧ k ≤ y.size ∧ i = .int .i64 k ∧ Below w.heap.size w wr ∧ comFrom x y f k = comN x y ∧ x.size ≤ k + f) (fun i _ => x.size - (intOf i).toNat)
    case atStart => exact ⟨0, x.size, Nat.zero_le _, Nat.zero_le _, rfl, B1, rfl, by omega⟩
    case round =>
      obtain ⟨k, f, hx, hy, rfl, hB, hc, hf⟩ := hrel
      have HC := Lib.hid hc
      clear hc
      by_cases hh : k < x.size ∧ k < y.size
      · obtain ⟨h1, h2⟩ := hh
        have hm : decide ((k : Int) < min (x.size : Int) (y.size : Int)) = true := by simp; omega
        by_cases he : x[k]'(by omega) = y[k]'(by omega)
        · have hd : (((x[k]'(by omega)).toNat : Int) == ((y[k]'(by omega)).toNat : Int)) = true := by rw [he]; simp
          obtain ⟨g, rfl⟩ : ∃ g, f = g + 1 := ⟨f - 1, by omega⟩
          have HE := Lib.hid he
          clear he
          go_wp2
          go_quiet (fail)
          go_wp2
          go_roundw
          case rel => exact ⟨k + 1, g, by omega, by omega, by go_num, hB.drewN _, by rw [← HC.out]; exact (comFrom_eq h1 h2 HE.out).symm, by omega⟩
          case measure => simp [intOf]; omega
        · have hd : (((x[k]'(by omega)).toNat : Int) == ((y[k]'(by omega)).toNat : Int)) = false := by
            rw [beq_eq_false_iff_ne]; intro h; exact he (byte_eq_iff.1 h)
          have hk : comN x y = k := by rw [← HC.out]; exact comFrom_ne h1 h2 he
          have HK := Lib.hid hk
          clear hk he
          go_wp2
          go_quiet (fail)
          go_wp2_with (go_at_call 113; refine (strings_Clone _ _ (by simp; omega)).mono ?_; rintro e w2 ⟨rfl, b2⟩)
          go_ret2
          exact ⟨by rw [HK.out]; rfl, (hB.drewN _).trans (b2.mono (by have := hB.size; simpa using this))⟩
      · have hk : comN x y = k := by rw [← HC.out]; exact comFrom_end hh
        have HK := Lib.hid hk
        have hm : decide ((k : Int) < min (x.size : Int) (y.size : Int)) = false := by simp; omega
        clear hk hh
        go_wp2
        go_quiet (fail)
        go_wp2_with (go_at_call 113; refine (strings_Clone _ _ (by simp; omega)).mono ?_; rintro e w2 ⟨rfl, b2⟩)
        go_ret2
        exact ⟨by rw [HK.out]; rfl, (hB.drewN _).trans (b2.mono (by have := hB.size; simpa using this))⟩
  · rw [beginR_bad h]
    have H := Lib.hid h
    clear h
    go_enter Try.func58, Try.ntmps58
    go_wp2_with (go_at_call 130; refine (areWords2_no _ x y _ (by simp) (by simp [go_sem]) (by simp [go_sem]) sx sy H.out).mono ?_; rintro e w1 ⟨rfl, b1⟩)
    go_ret2
    exact ⟨rfl, (Below.new _ _).then b1⟩

end Go.Proofs.Ytlaefpmfbnldfab

/-! ### CommonEnd -/
namespace Go.Proofs.Ytlaefpmfbnldfab
set_option linter.unusedVariables false
open Go.RowKit

set_option maxRecDepth 100000 in
set_option maxHeartbeats 1000000 in
theorem impl_CommonEnd (x y : ByteArray) (w : World) (sx : x.size ≤ maxLen) (sy : y.size ≤ maxLen) :
    Calls Try.prog 59 #[.string x, .string y] w fun e w' => e = .returned (.tuple #[.string (endR x y).1, .int .i64 (endR x y).2]) ∧ Below w.heap.size w w' := by
  by_cases h : IsW x ∧ IsW y
  · have s1 := h.1.size
    have s2 := h.2.size
    rw [endR_ok h]
    have H := Lib.hid h
    clear h
    go_enter Try.func59, Try.ntmps59
    go_wp2_with (go_at_call 130; refine (areWords2_yes _ x y _ (by simp) (by simp [go_sem]) (by simp [go_sem]) H.out.1 H.out.2).mono ?_; rintro e w1 ⟨rfl, b1⟩)
    have B1 := (Below.new w _).then b1
    clear b1
    go_loopw [6] (fun i wr => ∃ k f : Nat, k ≤ x.size ∧ k ≤ y.size ∧ i = .int .i64 k ∧ Below w.heap.size w wr ∧ comFrom (rev x) (rev y) f k = comN (rev x) (rev y) ∧ x.size ≤ k + f) (fun i _ => x.size - (intOf i).toNat)
    case atStart => exact ⟨0, x.size, Nat.zero_le _, Nat.zero_le _, rfl, B1, by rw [comN, rev_size], by omega⟩
    case round =>
      obtain ⟨k, f, hx, hy, rfl, hB, hc, hf⟩ := hrel
      have HC := Lib.hid hc
      clear hc
      by_cases hh : k < x.size ∧ k < y.size
      · obtain ⟨h1, h2⟩ := hh
        have hm : decide ((k : Int) < min (x.size : Int) (y.size : Int)) = true := by simp; omega
        have e1 : IntKind.i64.wrap ((x.size : Int) - 1) = (x.size : Int) - 1 := IntWalk.i64_in _ (by omega)
        have e2 : IntKind.i64.wrap ((x.size : Int) - 1 - k) = (x.size : Int) - 1 - k := IntWalk.i64_in _ (by omega)
        have e3 : IntKind.i64.wrap ((y.size : Int) - 1) = (y.size : Int) - 1 := IntWalk.i64_in _ (by omega)
        have e4 : IntKind.i64.wrap ((y.size : Int) - 1 - k) = (y.size : Int) - 1 - k := IntWalk.i64_in _ (by omega)
        have e5 : (0 : Int) ≤ (x.size : Int) - 1 - k := by omega
        have e6 : (0 : Int) ≤ (y.size : Int) - 1 - k := by omega
        have hix : ∀ W, (Instr.index 9 (.string x) (.int .i64 ((x.size : Int) - 1 - k))).run Try.prog W = .ok (.int .u8 ((x[x.size - 1 - k]'(by omega)).toNat : Int)) W := fun W => index_at x _ _ (by omega) (by omega) W
        have hiy : ∀ W, (Instr.index 9 (.string y) (.int .i64 ((y.size : Int) - 1 - k))).run Try.prog W = .ok (.int .u8 ((y[y.size - 1 - k]'(by omega)).toNat : Int)) W := fun W => index_at y _ _ (by omega) (by omega) W
        clear e5 e6
        by_cases he : x[x.size - 1 - k]'(by omega) = y[y.size - 1 - k]'(by omega)
        · have hd : (((x[x.size - 1 - k]'(by omega)).toNat : Int) == ((y[y.size - 1 - k]'(by omega)).toNat : Int)) = true := by rw [he]; simp
          obtain ⟨g, rfl⟩ : ∃ g, f = g + 1 := ⟨f - 1, by omega⟩
          have HE := Lib.hid he
          clear he
          go_wp2
          go_quiet (fail)
          go_wp2
          go_roundw
          case rel => exact ⟨k + 1, g, by omega, by omega, by go_num, hB.drewN _, by rw [← HC.out]; exact (comFrom_eq (by rw [rev_size]; exact h1) (by rw [rev_size]; exact h2) (by rw [rev_get x k _ (by omega), rev_get y k _ (by omega)]; exact HE.out)).symm, by omega⟩
          case measure => simp [intOf]; omega
        · have hd : (((x[x.size - 1 - k]'(by omega)).toNat : Int) == ((y[y.size - 1 - k]'(by omega)).toNat : Int)) = false := by
            rw [beq_eq_false_iff_ne]; intro h; exact he (byte_eq_iff.1 h)
          have hk : comN (rev x) (rev y) = k := by rw [← HC.out]; exact comFrom_ne (by rw [rev_size]; exact h1) (by rw [rev_size]; exact h2) (by rw [rev_get x k _ (by omega), rev_get y k _ (by omega)]; exact he)
          have HK := Lib.hid hk
          clear hk he
          go_wp2
          go_quiet (fail)
          go_wp2_with (go_at_call 113; refine (strings_Clone _ _ (by simp; omega)).mono ?_; rintro e w2 ⟨rfl, b2⟩)
          go_ret2
          exact ⟨by rw [HK.out]; rfl, (hB.drewN _).trans (b2.mono (by have := hB.size; simpa using this))⟩
      · have hk : comN (rev x) (rev y) = k := by rw [← HC.out]; exact comFrom_end (by rw [rev_size, rev_size]; exact hh)
        have HK := Lib.hid hk
        have hm : decide ((k : Int) < min (x.size : Int) (y.size : Int)) = false := by simp; omega
        clear hk hh
        go_wp2
        go_quiet (fail)
        go_wp2_with (go_at_call 113; refine (strings_Clone _ _ (by simp; omega)).mono ?_; rintro e w2 ⟨rfl, b2⟩)
        go_ret2
        exact ⟨by rw [HK.out]; rfl, (hB.drewN _).trans (b2.mono (by have := hB.size; simpa using this))⟩
  · rw [endR_bad h]
    have H := Lib.hid h
    clear h
    go_enter Try.func59, Try.ntmps59
    go_wp2_with (go_at_call 130; refine (areWords2_no _ x y _ (by simp) (by simp [go_sem]) (by simp [go_sem]) sx sy H.out).mono ?_; rintro e w1 ⟨rfl, b1⟩)
    go_ret2
    exact ⟨rfl, (Below.new _ _).then b1⟩

end Go.Proofs.Ytlaefpmfbnldfab

/-! ### CommonS -/
namespace Go.Proofs.Ytlaefpmfbnldfab
set_option linter.unusedVariables false
open Go.RowKit

theorem slice_fromC (x : ByteArray) (i : Int) (n : Nat) (hn : n ≤ x.size) (h : i = n) (W : World) :
    (Instr.slice 9 (.string x) (some (.int .i64 i)) none none).run Try.prog W = .ok (.string (x.extract n x.size)) W := by
  subst h
  have := run_slice_string_l (P := Try.prog) (w := W) (t := 9) (ht := Try.underlying9) (s := x) .i64 (n : Int) (by omega) (by omega)
  simpa using this

set_option maxRecDepth 100000 in
theorem spec_CommonBeginning (x y : ByteArray) (w : World) (sx : x.size ≤ maxLen) (sy : y.size ≤ maxLen) :
    Calls Try.prog 71 #[.string x, .string y] w fun e w' => e = .returned (.tuple #[.string (beginR x y).1, .int .i64 (beginR x y).2]) ∧ Below w.heap.size w w' := by
  by_cases h1 : IsW x
  · by_cases h2 : IsW y
    · have s1 := h1.size
      have s2 := h2.size
      rw [beginR_ok ⟨h1, h2⟩]
      have H1 := Lib.hid h1
      have H2 := Lib.hid h2
      clear h1 h2
      have hcm := comN_le x y
      go_enter Try.func71, Try.ntmps71
      go_wp2_with fail
      refine (l01Is_yes x _ H1.out).mono ?_
      rintro e w1 ⟨rfl, b1⟩
      go_wp2_with fail
      refine (l01Is_yes y _ H2.out).mono ?_
      rintro e w2 ⟨rfl, b2⟩
      have B2 := b1.then b2
      clear b1 b2
      go_wp2_with fail
      refine (l01Common_any x y _ s1 s2).mono ?_
      rintro e w3 ⟨rfl, b3⟩
      go_wp2_with fail
      go_ret2
      exact ⟨rfl, B2.then b3⟩
    · rw [beginR_bad (fun h => h2 h.2)]
      have H1 := Lib.hid h1
      have H2 := Lib.hid h2
      clear h1 h2
      go_enter Try.func71, Try.ntmps71
      go_wp2_with fail
      refine (l01Is_yes x _ H1.out).mono ?_
      rintro e w1 ⟨rfl, b1⟩
      go_wp2_with fail
      refine (l01Is_no y _ sy H2.out).mono ?_
      rintro e w2 ⟨rfl, b2⟩
      go_wp2_with fail
      go_ret2
      exact ⟨rfl, b1.then b2⟩
  · rw [beginR_bad (fun h => h1 h.1)]
    have H1 := Lib.hid h1
    clear h1
    go_enter Try.func71, Try.ntmps71
    go_wp2_with (go_at_call 117; refine (l01Is_no x _ sx H1.out).mono ?_; rintro e w1 ⟨rfl, b1⟩)
    go_ret2
    exact ⟨rfl, b1⟩

set_option maxRecDepth 100000 in
theorem spec_CommonEnd (x y : ByteArray) (w : World) (sx : x.size ≤ maxLen) (sy : y.size ≤ maxLen) :
    Calls Try.prog 72 #[.string x, .string y] w fun e w' => e = .returned (.tuple #[.string (endR x y).1, .int .i64 (endR x y).2]) ∧ Below w.heap.size w w' := by
  by_cases h1 : IsW x
  · by_cases h2 : IsW y
    · have s1 := h1.size
      have s2 := h2.size
      rw [endR_ok ⟨h1, h2⟩]
      have H1 := Lib.hid h1
      have H2 := Lib.hid h2
      clear h1 h2
      have hcm := comN_le (rev x) (rev y)
      have t1 := rev_size x
      have t2 := rev_size y
      have T1 : (rev x).size ≤ 60 := by omega
      have T2 : (rev y).size ≤ 60 := by omega
      have T3 : comN (rev x) (rev y) ≤ x.size := by omega
      clear hcm t1 t2
      have e1 : IntKind.i64.wrap ((x.size : Int) - comN (rev x) (rev y)) = (x.size : Int) - comN (rev x) (rev y) := IntWalk.i64_in _ (by omega)
      have hsl : ∀ W, (Instr.slice 9 (.string x) (some (.int .i64 ((x.size : Int) - comN (rev x) (rev y)))) none none).run Try.prog W = .ok (.string (x.extract (x.size - comN (rev x) (rev y)) x.size)) W := fun W => slice_fromC x _ _ (by omega) (by omega) W
      go_enter Try.func72, Try.ntmps72
      go_wp2_with fail
      refine (l01Is_yes x _ H1.out).mono ?_
      rintro e w1 ⟨rfl, b1⟩
      go_wp2_with fail
      refine (l01Is_yes y _ H2.out).mono ?_
      rintro e w2 ⟨rfl, b2⟩
      have B2 := b1.then b2
      clear b1 b2
      go_wp2_with fail
      refine (l01Reversed_any x _ s1).mono ?_
      rintro e w3 ⟨rfl, b3⟩
      go_wp2_with fail
      refine (l01Reversed_any y _ s2).mono ?_
      rintro e w4 ⟨rfl, b4⟩
      go_wp2_with fail
      refine (l01Common_any (rev x) (rev y) _ T1 T2).mono ?_
      rintro e w5 ⟨rfl, b5⟩
      go_wp2_with fail
      go_ret2
      exact ⟨rfl, ((B2.then b3).then b4).then b5⟩
    · rw [endR_bad (fun h => h2 h.2)]
      have H1 := Lib.hid h1
      have H2 := Lib.hid h2
      clear h1 h2
      go_enter Try.func72, Try.ntmps72
      go_wp2_with fail
      refine (l01Is_yes x _ H1.out).mono ?_
      rintro e w1 ⟨rfl, b1⟩
      go_wp2_with fail
      refine (l01Is_no y _ sy H2.out).mono ?_
      rintro e w2 ⟨rfl, b2⟩
      go_wp2_with fail
      go_ret2
      exact ⟨rfl, b1.then b2⟩
  · rw [endR_bad (fun h => h1 h.1)]
    have H1 := Lib.hid h1
    clear h1
    go_enter Try.func72, Try.ntmps72
    go_wp2_with (go_at_call 117; refine (l01Is_no x _ sx H1.out).mono ?_; rintro e w1 ⟨rfl, b1⟩)
    go_ret2
    exact ⟨rfl, b1⟩

end Go.Proofs.Ytlaefpmfbnldfab

/-! ### NamedI -/
namespace Go.Proofs.Ytlaefpmfbnldfab
set_option linter.unusedVariables false
set_option linter.unusedSimpArgs false
open Go.RowKit

set_option maxRecDepth 100000 in
set_option maxHeartbeats 4000000 in
theorem impl_NamedWord (s : ByteArray) (m : Int) (w : World) (sx : s.size ≤ maxLen) (wm : (Lit.int .i64 m).wf = true) :
    Calls Try.prog 76 #[.string s, .int .i64 m] w fun e w' => e = .returned (.tuple #[.string (namedR s m).1, .int .i64 (namedR s m).2]) ∧ Below w.heap.size w w' := by
  by_cases hb : m < 0 ∨ 60 < m
  · rw [namedR_out hb]
    rcases hb with hb | hb
    · go_enter Try.func76, Try.ntmps76
      go_wp2
      go_ret2
      exact ⟨rfl, Below.refl _ _⟩
    · have h0 : 0 ≤ m := by omega
      go_enter Try.func76, Try.ntmps76
      go_wp2
      go_ret2
      exact ⟨rfl, Below.refl _ _⟩
  · rcases way_of s with ⟨hid, hw⟩ | ⟨d, hd, hid, hw⟩
    · rw [namedR_none hb hid]
      have h0 : 0 ≤ m := by omega
      have h1 : m ≤ 60 := by omega
      have HW := Lib.hid hw
      clear hb hid hw
      have hnil : ∀ (a : Option Addr) (n c : Nat) (W : World), (binOp .eql 44 (.slice a n c) (.slice none 0 0)).run Try.prog W = .ok (.bool a.isNone) W := fun a n c W => Lib.run_eql_slice_nil W _ _ a n c 0 0 Try.underlying44
      go_enter Try.func76, Try.ntmps76
      go_wp2_with fail
      refine (images_none s _ HW.out).mono ?_
      rintro e w1 ⟨rfl, b1⟩
      go_wp2_with fail
      go_ret2
      exact ⟨rfl, b1⟩
    · obtain ⟨m, rfl⟩ := Int.eq_ofNat_of_zero_le (show 0 ≤ m by omega)
      have hm : m ≤ 60 := by omega
      rw [namedR_some hm hid]
      have HW := Lib.hid hw
      have HG := Lib.hid (imgs_good d hd)
      have HE := Lib.hid (named_eq d hd m (by omega))
      have HI : Hid (implRun (imgs d) m 60 ((imgs d).getD 0 []) 1 = namedI d m) := Lib.hid rfl
      clear hb hid hw
      have hnil : ∀ (a : Option Addr) (n c : Nat) (W : World), (binOp .eql 44 (.slice a n c) (.slice none 0 0)).run Try.prog W = .ok (.bool a.isNone) W := fun a n c W => Lib.run_eql_slice_nil W _ _ a n c 0 0 Try.underlying44
      go_enter Try.func76, Try.ntmps76
      go_wp2_with fail
      refine (images_some s d _ hd HW.out).mono ?_
      rintro e w1 ⟨v, rfl, o1, b1⟩
      generalize hIm : imgs d = I at *
      have hl2 := HG.out.2.1
      have hl3 := HG.out.2.2.1
      obtain ⟨g, cp, rfl, hg, hcp, cell⟩ := o1.rowS (by omega)
      have C := Lib.hid cell
      clear hIm o1 cell
      have c0 := C.out 0 (by omega)
      have h0m := HG.out.2.2.2.1
      have hI0 : I[0]'(by omega) = I.getD 0 [] := by rw [List.getD_eq_getElem?_getD, List.getElem?_eq_getElem (by omega)]; rfl
      rw [hI0] at c0
      have hgood0 : (I.getD 0 []).length ≤ 3 ∧ lets I (I.getD 0 []) := by
        have := HG.out.1 (I.getD 0 []) (by rw [← hI0]; exact List.getElem_mem _)
        exact this.2
      have HL0 := Lib.hid hgood0.2
      have h03 := hgood0.1
      clear hI0 hgood0
      generalize hst : I.getD 0 [] = l0 at *
      have hcp0 : 0 < cp := by omega
      have hIl : 0 < I.length := by omega
      have hbz : (bt l0).size = l0.length := rfl
      generalize hq0 : bt l0 = t0 at *
      have HQ0 := Lib.hid hq0
      have HBZ := Lib.hid hbz
      clear hst hq0 hbz
      go_wp2_with fail
      go_loopw [7, 8] (fun o q wr => ∃ (i f : Nat) (l : List UInt8) (t : ByteArray), q = .int .i64 i ∧ o = .string t ∧ Hid (t = bt l) ∧ Hid (t.size = l.length) ∧ i + 1 ≤ l.length ∧ l.length ≤ 63 ∧ m ≤ l.length + f ∧ wr = w1 ∧ Hid (lets I l) ∧ Hid (implRun I m f l i = namedI d m)) (fun o _ _ => m - szOf o)
      case atStart => exact ⟨1, 60, l0, t0, rfl, rfl, Lib.hid HQ0.out.symm, HBZ, by omega, by omega, by omega, rfl, HL0, HI⟩
      case round =>
        obtain ⟨i, f, l, t, rfl, rfl, HT, HS, hil, hl63, hf, rfl, HLE, HR⟩ := hrel
        clear c0
        by_cases hlt : l.length < m
        · obtain ⟨f, rfl⟩ : ∃ k, f = k + 1 := ⟨f - 1, by omega⟩
          have hts := HS.out
          have hit : i < t.size := by omega
          have hti : t[i]'hit = l.getD i 0 := by
            have h1 : i < l.length := by omega
            have h2 : i < (bt l).size := h1
            have h3 : (bt l)[i]'h2 = l[i]'h1 := rfl
            have h4 : t[i]'hit = (bt l)[i]'h2 := by
              have := HT.out
              subst this
              rfl
            rw [h4, h3, List.getD_eq_getElem?_getD, List.getElem?_eq_getElem h1]
            rfl
          have hle := HLE.out (l.getD i 0) (by
            rw [List.getD_eq_getElem?_getD, List.getElem?_eq_getElem (show i < l.length by omega)]
            exact List.getElem_mem _)
          have hstep := implRun_step (I := I) (f := f) (i := i) hlt
          have hmem := img_mem hle.2
          have hgi := HG.out.1 _ hmem
          have hcell := C.out _ hle.2
          rw [show I[(l.getD i 0).toNat - 97]'hle.2 = img I (l.getD i 0) by unfold img; rw [List.getD_eq_getElem?_getD (l := I), List.getElem?_eq_getElem hle.2]; rfl] at hcell
          rw [← hti] at hle hstep hgi hcell
          generalize hr : img I (t[i]'hit) = r at *
          have HST := Lib.hid hstep
          obtain ⟨a1, a2⟩ := hle
          obtain ⟨r1, r3, hrl⟩ := hgi
          have HLE2 := Lib.hid (lets_app HLE.out hrl)
          obtain ⟨n, hn⟩ : ∃ n : Nat, ((t[i]'hit).toNat : Int) = (n : Int) + 97 := ⟨(t[i]'hit).toNat - 97, by omega⟩
          have hnn : (t[i]'hit).toNat - 97 = n := by omega
          rw [hnn] at hcell a2
          have e1 : ((t[i]'hit).toNat : Int) - 97 = n := by omega
          have hncp : n < cp := by omega
          have hb255 : (t[i]'hit).toNat ≤ 255 := by have := (t[i]'hit).toNat_lt; omega
          have happ : t ++ bt r = bt (l ++ r) := by rw [HT.out, bt_app]
          have hrs : (bt r).size = r.length := rfl
          have hasz : (t ++ bt r).size = (l ++ r).length := by rw [happ]; rfl
          have HAP := Lib.hid happ
          have HAS := Lib.hid hasz
          have hlr : (l ++ r).length = l.length + r.length := List.length_append
          have HLR := Lib.hid hlr
          generalize hbr : bt r = tr at *
          have hts60 : t.size ≤ 63 := by omega
          have htr : tr.size ≤ 3 := by omega
          have hltm : (t.size : Int) < (m : Int) := by omega
          clear hti hstep hmem hr hrl hnn happ hrs hasz hlr hbr hts hlt hn
          go_wp2_with fail
          go_roundw
          case rel =>
            have q1 := HS.out
            have q2 := HLR.out
            exact ⟨i + 1, f, l ++ r, t ++ tr, by go_num, rfl, Lib.hid HAP.out, HAS, by omega, by omega, by omega, by first | rfl | trivial, HLE2, Lib.hid (by rw [← HR.out, HST.out])⟩
          case measure =>
            have q1 := HS.out
            have q2 := HLR.out
            have q3 := HAS.out
            show m - (t ++ tr).size < m - t.size
            omega
        · have hR := HR.out
          rw [implRun_end hlt] at hR
          have hx : t.extract 0 m = bt ((namedS d m).take m) := by rw [HT.out, bt_take, hR, HE.out]
          have HX := Lib.hid hx
          have hts := HS.out
          have hge : m ≤ t.size := by omega
          clear hR hx hts hlt
          go_wp2_with fail
          go_ret2
          exact ⟨by rw [← HX.out]; rfl, b1⟩

end Go.Proofs.Ytlaefpmfbnldfab

/-! ### NamedW -/
namespace Go.Proofs.Ytlaefpmfbnldfab
set_option linter.unusedVariables false
set_option linter.unusedSimpArgs false
open Go.RowKit

set_option maxRecDepth 100000 in
theorem spec_NamedWord (s : ByteArray) (m : Int) (w : World) (sx : s.size ≤ maxLen) (wm : (Lit.int .i64 m).wf = true) :
    Calls Try.prog 77 #[.string s, .int .i64 m] w fun e w' => e = .returned (.tuple #[.string (namedR s m).1, .int .i64 (namedR s m).2]) ∧ Below w.heap.size w w' := by
  by_cases hb : m < 0 ∨ 60 < m
  · rw [namedR_out hb]
    have HB := Lib.hid hb
    clear hb
    go_enter Try.func77, Try.ntmps77
    go_wp2_with fail
    refine (l01In_no' m 0 60 _ (by have := HB.out; omega)).mono ?_
    rintro e w1 ⟨rfl, rfl⟩
    go_wp2_with fail
    go_ret2
    exact ⟨rfl, Below.refl _ _⟩
  · rcases way_of s with ⟨hid, hw⟩ | ⟨d, hd, hid, hw⟩
    · rw [namedR_none hb hid]
      have HW := Lib.hid hw
      have h0 : 0 ≤ m := by omega
      have h1 : m ≤ 60 := by omega
      clear hb hid hw
      go_enter Try.func77, Try.ntmps77
      go_wp2_with fail
      refine (l01In_yes' m 0 60 _ h0 h1).mono ?_
      rintro e w1 ⟨rfl, rfl⟩
      go_wp2_with fail
      refine (l01Named_none s m _ HW.out).mono ?_
      rintro e w2 ⟨rfl, b2⟩
      go_wp2_with fail
      go_ret2
      exact ⟨rfl, b2⟩
    · obtain ⟨m, rfl⟩ := Int.eq_ofNat_of_zero_le (show 0 ≤ m by omega)
      have hm : m ≤ 60 := by omega
      rw [namedR_some hm hid]
      have HW := Lib.hid hw
      clear hb hid hw
      generalize hq : bt ((namedS d m).take m) = t
      have HQ := Lib.hid hq
      clear hq
      go_enter Try.func77, Try.ntmps77
      go_wp2_with fail
      refine (l01In_yes' _ 0 60 _ (by omega) (by omega)).mono ?_
      rintro e w1 ⟨rfl, rfl⟩
      go_wp2_with fail
      refine (l01Named_some s m d _ hd hm HW.out).mono ?_
      rintro e w2 ⟨rfl, b2⟩
      rw [HQ.out]
      go_wp2_with fail
      go_ret2
      exact ⟨rfl, b2⟩

end Go.Proofs.Ytlaefpmfbnldfab
