/- Plain facts: roots, borders and periods belong together. -/
import Derived.Test.YtddfdciohnabbacGreatPerRPlain
import Derived.Test.YtddfdciohnabbacGreatLeast
import Derived.Test.YtddfdciohnabbacGreatPowPlain
import Derived.Test.YtddfdciohnabbacGreatTurnMap
namespace Go.Proofs.YtddfdciohnabbacGreat
set_option linter.unusedVariables false
set_option linter.unusedSimpArgs false
open Go.RowKit

theorem IsW.extract {x : ByteArray} (h : IsW x) (a b : Nat) : IsW (x.extract a b) := by
  have h1 := h.size
  refine ⟨by simp; omega, fun i hi => ?_⟩
  have hi2 : i < b - a ∧ a + i < x.size := by simp at hi; omega
  have e : (x.extract a b)[i]'hi = x[a + i]'hi2.2 := by simp [ByteArray.getElem_extract]
  rw [e]
  exact h.2 _ _

theorem repeat_take {l : List UInt8} {d : Nat} (hp : Per l d) : ∀ k, d * k ≤ l.length → Lib.repeatL (l.take d) k = l.take (d * k)
  | 0, _ => by simp [Lib.repeatL]
  | k + 1, h => by
    rw [Nat.mul_succ] at h
    rw [Lib.repeatL_add, Lib.repeatL_one, repeat_take hp k (by omega), Nat.mul_succ]
    apply List.ext_getElem?
    intro i
    by_cases h1 : i < d * k
    · rw [List.getElem?_append_left (by rw [List.length_take]; omega), List.getElem?_take_of_lt h1, List.getElem?_take_of_lt (by omega)]
    · rw [List.getElem?_append_right (by rw [List.length_take]; omega), List.length_take, Nat.min_eq_left (by omega)]
      by_cases h2 : i < d * k + d
      · rw [List.getElem?_take_of_lt (by omega), List.getElem?_take_of_lt h2]
        have := per_mul hp k (i - d * k) (by rw [Nat.mul_comm k d]; omega)
        rw [this, Nat.mul_comm k d]
        congr 1
        omega
      · rw [List.getElem?_eq_none (by rw [List.length_take]; omega), List.getElem?_eq_none (by rw [List.length_take]; omega)]

theorem root_power {x : ByteArray} (h : IsW x) (h0 : 0 < x.size) : powR (x.extract 0 (rl (bl x))) ((x.size / rl (bl x) : Nat) : Int) = (x, 0) := by
  have hne := bl_ne h0
  have r0 := rl_pos hne
  have r1 := rl_le hne
  have hd := rl_dvd hne
  have hp := rl_per hne
  rw [bl_len] at r1 hd
  have h60 := h.size
  have hk : x.size / rl (bl x) ≤ x.size := Nat.div_le_self _ _
  have hmul : rl (bl x) * (x.size / rl (bl x)) = x.size := Nat.mul_div_cancel' hd
  have hs : (x.extract 0 (rl (bl x))).size = rl (bl x) := by simp; omega
  rw [powR_ok (h.extract _ _) (by omega) (by rw [hs, hmul]; exact h60)]
  congr 1
  apply bl_inj
  show (Lib.repeatL (x.extract 0 (rl (bl x))).data.toList (x.size / rl (bl x))).toArray.toList = _
  rw [show (x.extract 0 (rl (bl x))).data.toList = (bl x).take (rl (bl x)) from bl_take x _]
  rw [repeat_take hp _ (by rw [bl_len, hmul]; exact Nat.le_refl _), hmul, List.take_of_length_le (by rw [bl_len]; exact Nat.le_refl _)]

theorem ltF_inv (x : ByteArray) : ∀ (pre : List Nat) (p : ByteArray × Nat), p.1 = turned x p.2 → (pre.foldl (ltS x) p).1 = turned x (pre.foldl (ltS x) p).2 ∧ ((pre.foldl (ltS x) p).2 = p.2 ∨ (pre.foldl (ltS x) p).2 ∈ pre)
  | [], p, h => ⟨h, .inl rfl⟩
  | k :: pre, p, h => by
    rw [List.foldl_cons]
    have h2 : (ltS x p k).1 = turned x (ltS x p k).2 ∧ ((ltS x p k).2 = p.2 ∨ (ltS x p k).2 = k) := by
      unfold ltS
      split
      · exact ⟨rfl, .inr rfl⟩
      · exact ⟨h, .inl rfl⟩
    obtain ⟨i1, i2⟩ := ltF_inv x pre (ltS x p k) h2.1
    refine ⟨i1, ?_⟩
    rcases i2 with i2 | i2
    · rw [i2]
      rcases h2.2 with h3 | h3
      · exact .inl h3
      · right; rw [h3]; exact List.mem_cons_self
    · exact .inr (List.mem_cons_of_mem _ i2)
theorem least_turn {x : ByteArray} (h : IsW x) : turnR x ((ltF x (List.range (max 1 x.size))).2 : Int) = ((ltF x (List.range (max 1 x.size))).1, 0) := by
  obtain ⟨i1, i2⟩ := ltF_inv x (List.range (max 1 x.size)) (x, 0) (turned_zero x).symm
  have hle : (ltF x (List.range (max 1 x.size))).2 ≤ x.size := by
    rcases i2 with i2 | i2
    · show (List.foldl (ltS x) (x, 0) (List.range (max 1 x.size))).2 ≤ _
      rw [i2]; exact Nat.zero_le _
    · have := List.mem_range.1 i2
      show (List.foldl (ltS x) (x, 0) (List.range (max 1 x.size))).2 ≤ _
      omega
  rw [turnR_ok h hle]
  congr 1
  exact i1.symm

theorem bords_pers_len (l : List UInt8) : (bordsR l l.length).length = (persR l l.length).length := by rw [bords_eq]; simp
theorem bords_pers_get (l : List UInt8) (i : Nat) (h : i < (persR l l.length).length) : (persR l l.length)[i]'h + (bordsR l l.length)[(bordsR l l.length).length - 1 - i]'(by rw [bords_pers_len]; omega) = l.length := by
  have e := bords_eq l
  have h2 : (bordsR l l.length)[(bordsR l l.length).length - 1 - i]? = some ((l.length : Int) - (persR l l.length)[i]'h) := by
    rw [bords_pers_len, e, List.getElem?_map, List.getElem?_reverse (by omega), show (persR l l.length).length - 1 - ((persR l l.length).length - 1 - i) = i by omega, List.getElem?_eq_getElem h]
    rfl
  rw [List.getElem?_eq_getElem (by rw [bords_pers_len]; omega)] at h2
  have := Option.some.inj h2
  omega
theorem exp_cross (n p : Nat) (h : 0 < n) : ((n / Nat.gcd n p : Nat) : Int) * (p : Int) = ((p / Nat.gcd n p : Nat) : Int) * (n : Int) := by
  have h1 := Nat.div_mul_cancel (Nat.gcd_dvd_left n p)
  have h2 := Nat.div_mul_cancel (Nat.gcd_dvd_right n p)
  have key : ∀ m q a b g : Nat, a * g = m → b * g = q → a * q = b * m := by
    rintro m q a b g rfl rfl
    exact Nat.mul_left_comm a b g
  have := key n p _ _ _ h1 h2
  rw [← Int.natCast_mul, ← Int.natCast_mul, this]

end Go.Proofs.YtddfdciohnabbacGreat
