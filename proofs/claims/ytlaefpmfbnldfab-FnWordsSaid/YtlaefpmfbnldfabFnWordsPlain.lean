/- Plain facts: products, reversed words, beginnings and ends, letters, counts and turns belong together. -/
import Derived.Test.YtlaefpmfbnldfabPerPlain
import Derived.Test.YtlaefpmfbnldfabLeast
import Derived.Test.YtlaefpmfbnldfabCountPlain
import Derived.Test.YtlaefpmfbnldfabWordOfPlain
import Derived.Test.YtlaefpmfbnldfabReverse
namespace Go.Proofs.Ytlaefpmfbnldfab
set_option linter.unusedVariables false
set_option linter.unusedSimpArgs false
open Go.RowKit

theorem isW_bl {x : ByteArray} : IsW x ↔ (bl x).length ≤ 60 ∧ ∀ b ∈ bl x, 97 ≤ b.toNat ∧ b.toNat ≤ 101 := by
  constructor
  · intro h
    refine ⟨h.1, fun b hb => ?_⟩
    obtain ⟨i, hi, rfl⟩ := List.getElem_of_mem hb
    exact h.2 i hi
  · intro h
    exact ⟨h.1, fun i hi => h.2 _ (List.getElem_mem (l := bl x) hi)⟩
theorem bl_rev (x : ByteArray) : bl (rev x) = (bl x).reverse := by
  show x.data.reverse.toList = x.data.toList.reverse
  exact Array.toList_reverse
theorem IsW.rev {x : ByteArray} (h : IsW x) : IsW (rev x) := by
  rw [isW_bl] at h ⊢
  rw [bl_rev]
  exact ⟨by rw [List.length_reverse]; exact h.1, fun b hb => h.2 b (List.mem_reverse.1 hb)⟩
theorem IsW.join {x y : ByteArray} (h : IsW x) (k : IsW y) (hl : x.size + y.size ≤ 60) : IsW (x ++ y) := by
  rw [isW_bl] at h k ⊢
  rw [bl_append]
  refine ⟨by rw [List.length_append, bl_len, bl_len]; exact hl, fun b hb => ?_⟩
  rcases List.mem_append.1 hb with hb | hb
  · exact h.2 b hb
  · exact k.2 b hb
theorem rev_join (x y : ByteArray) : rev (x ++ y) = rev y ++ rev x := bl_inj (by rw [bl_rev, bl_append, bl_append, bl_rev, bl_rev, List.reverse_append])
theorem rev_rev (x : ByteArray) : rev (rev x) = x := bl_inj (by rw [bl_rev, bl_rev, List.reverse_reverse])
theorem join_left (x y : ByteArray) : (x ++ y).extract 0 x.size = x := bl_inj (by rw [bl_take, bl_append, ← bl_len x, List.take_left])
theorem join_right (x y : ByteArray) : (x ++ y).extract x.size (x ++ y).size = y := bl_inj (by rw [bl_drop, bl_append, ← bl_len x, List.drop_left])
theorem join_get (x y : ByteArray) (k : Nat) (h : k < (x ++ y).size) (h2 : k < x.size) : (x ++ y)[k]'h = x[k]'h2 := by
  have e : (bl (x ++ y))[k]? = (bl x)[k]? := by rw [bl_append, List.getElem?_append_left h2]
  rw [List.getElem?_eq_getElem (show k < (bl (x ++ y)).length from h), List.getElem?_eq_getElem (show k < (bl x).length from h2)] at e
  exact Option.some.inj e
theorem com_join (x y : ByteArray) : ∀ f k, k ≤ x.size → x.size ≤ k + f → comFrom (x ++ y) x f k = x.size
  | 0, k, h1, h2 => by show k = _; omega
  | f + 1, k, h1, h2 => by
    by_cases h : k < x.size
    · have h3 : k < (x ++ y).size := by rw [ByteArray.size_append]; omega
      rw [comFrom_eq h3 h (join_get x y k h3 h)]
      exact com_join x y f (k + 1) (by omega) (by omega)
    · rw [comFrom_end (fun hh => h hh.2)]
      omega
theorem comN_join (x y : ByteArray) : comN (x ++ y) x = x.size := com_join x y _ 0 (Nat.zero_le _) (by rw [ByteArray.size_append]; omega)
theorem nums_ok {x : ByteArray} (h : IsW x) : okN (numsR x) := by
  intro j hj
  have hj' : j < x.size := by rw [← numsR_len x]; exact hj
  rw [numsR_get x j hj hj']
  have h1 := h.lo j hj'
  have h2 := h.hi j hj'
  omega
theorem letB_back {b : UInt8} (h : 97 ≤ b.toNat ∧ b.toNat ≤ 101) : letB ((b.toNat : Int) - 97) = b := by
  have h1 := letB_nat (n := (b.toNat : Int) - 97) (by omega) (by omega)
  exact UInt8.toNat_inj.1 (by omega)
theorem word_nums {x : ByteArray} (h : IsW x) : wordB (numsR x) = x := by
  have h1 := (isW_bl.1 h).2
  apply bl_inj
  show ((numsR x).map letB).toArray.toList = bl x
  have h2 : ∀ l : List UInt8, (∀ b ∈ l, 97 ≤ b.toNat ∧ b.toNat ≤ 101) → (l.map fun b => (b.toNat : Int) - 97).map letB = l := by
    intro l hl
    rw [List.map_map]
    conv => rhs; rw [← List.map_id l]
    exact List.map_congr_left fun b hb => letB_back (hl b hb)
  exact h2 _ h1
theorem set_sum : ∀ (L : List Int) (n : Nat), n < L.length → (L.set n (L.getD n 0 + 1)).sum = L.sum + 1
  | [], n, h => by simp at h
  | a :: L, 0, h => by simp; omega
  | a :: L, n + 1, h => by
    have := set_sum L n (by simpa using h)
    simp only [List.set_cons_succ, List.sum_cons, List.getD_cons_succ, this]
    omega
theorem cnt_sum {x : ByteArray} (h : IsW x) : ∀ k, k ≤ x.size → (cntK x k).sum = k
  | 0, _ => by rw [cntK_zero]; rfl
  | k + 1, hk => by
    have h1 := h.lo k (by omega)
    have h2 := h.hi k (by omega)
    rw [cntK_succ x k (by omega)]
    unfold bump
    rw [set_sum _ _ (by rw [cntK_len]; omega), cnt_sum h k (by omega)]
    omega
theorem cnt_small {x : ByteArray} (h : IsW x) : ∀ z ∈ cntK x x.size, 0 ≤ z ∧ z ≤ 60 := by
  intro z hz
  obtain ⟨j, hj, rfl⟩ := List.getElem_of_mem hz
  have h1 := cntK_bd x x.size (Nat.le_refl _) j
  have h2 := h.size
  rw [List.getD_eq_getElem?_getD, List.getElem?_eq_getElem hj] at h1
  have h3 : (some ((cntK x x.size)[j]'hj)).getD 0 = (cntK x x.size)[j]'hj := rfl
  rw [h3] at h1
  omega

theorem rot_back (l : List UInt8) (k : Nat) (h : k ≤ l.length) : rotL (rotL l k) (l.length - k) = l := by
  unfold rotL
  have e : (l.drop k).length = l.length - k := List.length_drop ..
  rw [← e, List.drop_left, List.take_left, List.take_append_drop]
theorem IsW.turned {x : ByteArray} (h : IsW x) {k : Nat} (hk : k ≤ x.size) : IsW (turned x k) := by
  have hs := turned_size x k hk
  have h0 := h.size
  rw [isW_bl] at h ⊢
  refine ⟨by rw [bl_len]; omega, fun b hb => ?_⟩
  rw [bl_turned] at hb
  unfold rotL at hb
  rcases List.mem_append.1 hb with hb | hb
  · exact h.2 b (List.mem_of_mem_drop hb)
  · exact h.2 b (List.mem_of_mem_take hb)
theorem turn_back {x : ByteArray} {k : Int} (h : (turnR x k).2 = 0) : turnR (turnR x k).1 ((x.size : Int) - k) = (x, 0) ∧ (turnR x k).1.size ≤ 60 ∧ 0 ≤ k ∧ k ≤ x.size := by
  by_cases hx : IsW x
  · by_cases hk : k < 0 ∨ (x.size : Int) < k
    · rw [turnR_out hx hk] at h
      exact absurd h (by decide)
    · obtain ⟨n, rfl⟩ := Int.eq_ofNat_of_zero_le (show 0 ≤ k by omega)
      have hn : n ≤ x.size := by omega
      have h0 := hx.size
      rw [turnR_ok hx hn]
      have hs := turned_size x n hn
      refine ⟨?_, by show (turned x n).size ≤ 60; omega, by omega, by omega⟩
      show turnR (turned x n) ((x.size : Int) - n) = _
      rw [show (x.size : Int) - n = ((x.size - n : Nat) : Int) by omega, turnR_ok (hx.turned hn) (by omega)]
      congr 1
      apply bl_inj
      rw [bl_turned, bl_turned, show x.size - n = (bl x).length - n from rfl, rot_back _ _ hn]
  · rw [turnR_bad hx] at h
    exact absurd h (by decide)

/-- What the law asks of a product, put together. -/
structure WordAns (x y pr : ByteArray) : Prop where
  size : pr.size ≤ 60 ∧ x.size ≤ 60 ∧ y.size ≤ 60
  a : revR pr = (rev pr, 0)
  b : revR x = (rev x, 0)
  c : revR y = (rev y, 0)
  d : productR (rev y) (rev x) = (rev pr, 0)
  back : revR (rev pr) = (pr, 0)
  letters : lettersR pr = (numsR pr, 0)
  made : wolR (numsR pr) = (pr, 0)
  counts : countR pr = (cntK pr pr.size, 0)
  sum : (cntK pr pr.size).sum = pr.size
  small : ∀ z ∈ cntK pr pr.size, 0 ≤ z ∧ z ≤ 60
  begins : beginR pr x = (x, 0)
  ends : endR pr y = (y, 0)

theorem words_good {x y : ByteArray} (h : (productR x y).2 = 0) : WordAns x y (productR x y).1 := by
  by_cases hxy : IsW x ∧ IsW y
  · by_cases hl : 60 < x.size + y.size
    · rw [productR_long hxy hl] at h
      exact absurd h (by decide)
    · rw [productR_ok hxy hl]
      obtain ⟨hx, hy⟩ := hxy
      have hp := hx.join hy (by omega)
      have h1 := hx.size
      have h2 := hy.size
      have h3 := hp.size
      refine ⟨⟨h3, h1, h2⟩, revR_ok hp, revR_ok hx, revR_ok hy, ?_, ?_, lettersR_ok hp, ?_, countR_ok hp, cnt_sum hp _ (Nat.le_refl _), cnt_small hp, ?_, ?_⟩
      · rw [productR_ok ⟨hy.rev, hx.rev⟩ (by rw [rev_size, rev_size]; omega), rev_join]
      · rw [revR_ok hp.rev, rev_rev]
      · rw [wolR_ok (by rw [numsR_len]; exact h3) (nums_ok hp), word_nums hp]
      · rw [beginR_ok ⟨hp, hx⟩, comN_join, join_left]
      · rw [endR_ok ⟨hp, hy⟩, rev_join, comN_join, rev_size, show (x ++ y).size - y.size = x.size by rw [ByteArray.size_append]; omega, join_right]
  · rw [productR_bad hxy] at h
    exact absurd h (by decide)

end Go.Proofs.Ytlaefpmfbnldfab
