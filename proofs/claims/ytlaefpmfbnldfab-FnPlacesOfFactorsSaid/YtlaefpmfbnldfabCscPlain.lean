/- Plain facts: in how many ways a word is scattered in another one. -/
import Derived.Test.YtlaefpmfbnldfabComPlain
namespace Go.Proofs.Ytlaefpmfbnldfab
set_option linter.unusedVariables false
set_option linter.unusedSimpArgs false
open Go.RowKit

def csStep (x : ByteArray) (c : UInt8) (i : Nat) (L : List Int) : List Int := if h : i < x.size then (if x[i]'h = c then L.set (i + 1) (L.getD (i + 1) 0 + L.getD i 0) else L) else L
/-- The places i - 1, .., 0 in turn. -/
def csInn (x : ByteArray) (c : UInt8) : Nat → List Int → List Int
  | 0, L => L
  | i + 1, L => csInn x c i (csStep x c i L)
theorem csStep_len (x : ByteArray) (c : UInt8) (i : Nat) (L : List Int) : (csStep x c i L).length = L.length := by
  unfold csStep
  split
  · split <;> simp
  · rfl
theorem csInn_len (x : ByteArray) (c : UInt8) : ∀ (i : Nat) (L : List Int), (csInn x c i L).length = L.length
  | 0, _ => rfl
  | i + 1, L => by rw [csInn, csInn_len x c i, csStep_len]
def csK (x y : ByteArray) (j : Nat) : List Int := (y.data.toList.take j).foldl (fun L c => csInn x c x.size L) (1 :: List.replicate x.size 0)
theorem csK_zero (x y : ByteArray) : csK x y 0 = 1 :: List.replicate x.size 0 := by simp [csK]
theorem csK_succ (x y : ByteArray) (j : Nat) (h : j < y.size) : csK x y (j + 1) = csInn x (y[j]'h) x.size (csK x y j) := by
  have h2 : j < y.data.toList.length := h
  unfold csK
  rw [List.take_succ_eq_append_getElem h2, List.foldl_append]
  rfl
theorem csK_len (x y : ByteArray) : ∀ j, j ≤ y.size → (csK x y j).length = x.size + 1
  | 0, _ => by rw [csK_zero]; simp
  | j + 1, h => by rw [csK_succ x y j h, csInn_len, csK_len x y j (by omega)]
/-- All numbers are at least 0 and at most 2 m, those up to place i at most m. -/
def csBd (L : List Int) (i : Nat) (m : Int) : Prop := ∀ p, 0 ≤ L.getD p 0 ∧ L.getD p 0 ≤ 2 * m ∧ (p ≤ i → L.getD p 0 ≤ m)
theorem getD_set (L : List Int) (k p : Nat) (v : Int) : (L.set k v).getD p 0 = if p = k ∧ k < L.length then v else L.getD p 0 := by
  simp only [List.getD_eq_getElem?_getD, List.getElem?_set]
  by_cases e : k = p
  · subst e
    by_cases h : k < L.length
    · simp [h]
    · simp [h]
  · have e2 : ¬ p = k := fun h => e h.symm
    simp [e, e2]
theorem csStep_bd {x : ByteArray} {c : UInt8} {i : Nat} {L : List Int} {m : Int} (h : csBd L (i + 1) m) : csBd (csStep x c i L) i m := by
  have hm : 0 ≤ m := by have := h 0; omega
  unfold csStep
  split
  · split
    · intro p
      rw [getD_set]
      have h1 := h p
      have h2 := h i
      have h3 := h (i + 1)
      have h4 := h2.2.2 (by omega)
      have h5 := h3.2.2 (by omega)
      split
      · rename_i e
        exact ⟨by omega, by omega, fun hp => by omega⟩
      · exact ⟨h1.1, h1.2.1, fun hp => h1.2.2 (by omega)⟩
    · intro p
      have h1 := h p
      exact ⟨h1.1, h1.2.1, fun hp => h1.2.2 (by omega)⟩
  · intro p
    have h1 := h p
    exact ⟨h1.1, h1.2.1, fun hp => h1.2.2 (by omega)⟩
theorem csInn_bd {x : ByteArray} {c : UInt8} {m : Int} : ∀ (i : Nat) {L : List Int}, csBd L i m → csBd (csInn x c i L) 0 m
  | 0, _, h => h
  | i + 1, _, h => by rw [csInn]; exact csInn_bd i (csStep_bd h)
theorem csBd_two {L : List Int} {m : Int} (h : csBd L 0 m) (i : Nat) : csBd L i (2 * m) := fun p => ⟨(h p).1, by have := h p; omega, fun _ => (h p).2.1⟩
theorem csK_bd (x y : ByteArray) : ∀ j, j ≤ y.size → ∀ i, csBd (csK x y j) i (2 ^ j)
  | 0, _, i => by
    intro p
    rw [csK_zero]
    have : (1 :: List.replicate x.size (0 : Int)).getD p 0 = if p = 0 then 1 else 0 := by
      cases p with
      | zero => rfl
      | succ p =>
        simp [List.getD_eq_getElem?_getD, List.getElem?_replicate]
        split <;> rfl
    rw [this]
    split <;> simp
  | j + 1, h, i => by
    rw [csK_succ x y j h, show (2 : Int) ^ (j + 1) = 2 * 2 ^ j by rw [Int.pow_succ]; omega]
    exact csBd_two (csInn_bd x.size (csK_bd x y j (by omega) x.size)) i
theorem pow_le60 {j : Nat} (h : j ≤ 60) : (2 : Int) ^ j ≤ 1152921504606846976 := by
  have : (2 : Nat) ^ j ≤ 2 ^ 60 := Nat.pow_le_pow_right (by omega) h
  have h2 : ((2 ^ j : Nat) : Int) = (2 : Int) ^ j := by simp
  rw [← h2]
  omega
def cscR (x y : ByteArray) : Int × Int := if ¬ (IsW x ∧ IsW y) then (0, 1) else if 6 < x.size then (0, 2) else ((csK x y y.size).getD x.size 0, 0)
theorem cscR_bad {x y : ByteArray} (h : ¬ (IsW x ∧ IsW y)) : cscR x y = (0, 1) := if_pos h
theorem cscR_long {x y : ByteArray} (h : IsW x ∧ IsW y) (h6 : 6 < x.size) : cscR x y = (0, 2) := by unfold cscR; rw [if_neg (not_not_intro h), if_pos h6]
theorem cscR_ok {x y : ByteArray} (h : IsW x ∧ IsW y) (h6 : ¬ 6 < x.size) : cscR x y = ((csK x y y.size).getD x.size 0, 0) := by unfold cscR; rw [if_neg (not_not_intro h), if_neg h6]
theorem cs_hit {x : ByteArray} {c : UInt8} {i : Nat} {L : List Int} (h : i < x.size) (e : x[i]'h = c) : csStep x c i L = L.set (i + 1) (L.getD (i + 1) 0 + L.getD i 0) := by unfold csStep; rw [dif_pos h, if_pos e]
theorem cs_miss {x : ByteArray} {c : UInt8} {i : Nat} {L : List Int} (h : i < x.size) (e : x[i]'h ≠ c) : csStep x c i L = L := by unfold csStep; rw [dif_pos h, if_neg e]
theorem map_set_int (L : List Int) (k : Nat) (v : Int) : (L.map (Value.int .i64)).set k (.int .i64 v) = (L.set k v).map (Value.int .i64) := by simp [List.map_set]

end Go.Proofs.Ytlaefpmfbnldfab
