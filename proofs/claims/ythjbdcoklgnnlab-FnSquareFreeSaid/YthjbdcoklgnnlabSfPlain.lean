/- Plain facts: what the law on square free words asks of the answers. -/
import Derived.Test.YthjbdcoklgnnlabGePlain
import Derived.Test.YthjbdcoklgnnlabRepPlain
import Derived.Test.YthjbdcoklgnnlabNextPlain
namespace Go.Proofs.Ythjbdcoklgnnlab
set_option linter.unusedVariables false
set_option linter.unusedSimpArgs false

/-- A repeat is a factor with that period. -/
theorem rep_per {x : ByteArray} {i q e : Nat} (h : RepT (bl x) i q e) : i + (q + e) ≤ x.size ∧ Per (bl (x.extract i (i + (q + e)))) q := by
  obtain ⟨h1, h2⟩ := h
  rw [bl_len] at h1
  refine ⟨by omega, fun j hj => ?_⟩
  rw [bl_extract, List.length_take, List.length_drop] at hj
  rw [bl_extract, List.getElem?_take_of_lt (by omega), List.getElem?_take_of_lt (by omega), List.getElem?_drop, List.getElem?_drop, show i + (j + q) = i + j + q by omega]
  exact h2 j (by omega)
theorem per_rep {x : ByteArray} {i q m e : Nat} (hi : i + m ≤ x.size) (h : Per (bl (x.extract i (i + m))) q) (he : q + e ≤ m) : RepT (bl x) i q e := by
  refine ⟨by rw [bl_len]; omega, fun d hd => ?_⟩
  have hj : d + q < (bl (x.extract i (i + m))).length := by rw [bl_len]; simp; omega
  have h1 := h d hj
  rw [bl_extract, List.getElem?_take_of_lt (by omega), List.getElem?_take_of_lt (by omega), List.getElem?_drop, List.getElem?_drop, show i + (d + q) = i + d + q by omega] at h1
  exact h1
theorem rep_lpf {x : ByteArray} {i q e : Nat} (h0 : 0 < q) (h : RepT (bl x) i q e) : i + (q + e) ≤ x.size ∧ lpf x i (q + e) ≤ q := by
  obtain ⟨h1, h2⟩ := rep_per h
  have hz : (x.extract i (i + (q + e))).size = q + e := by simp; omega
  exact ⟨h1, lp_le (bl_ne (by omega)) h0 h2⟩
theorem lpf_per {x : ByteArray} {i m : Nat} (hm : 0 < m) (hi : i + m ≤ x.size) : Per (bl (x.extract i (i + m))) (lpf x i m) := by
  have hz : (x.extract i (i + m)).size = m := by simp; omega
  exact (lp_ok (bl_ne (x := x.extract i (i + m)) (by omega))).2.2.1

/-- Square free just if the greatest exponent is below 2; overlap free just if it is no more. -/
theorem ge_square {x : ByteArray} {s : Nat × Nat} (h : GeB x allS s) : (fs (bl x)).2 = 0 ↔ s.1 < 2 * s.2 := by
  obtain ⟨h1, h2, _, _, h5, h6⟩ := h
  rw [fs_iff]
  constructor
  · intro hf
    refine Nat.lt_of_not_le fun hc => ?_
    rcases h5 with rfl | ⟨i, m, hm, hi, rfl⟩
    · exact absurd hc (by decide)
    · have hb := lpf_bd hm hi
      have hc' : 2 * lpf x i m ≤ m := hc
      exact hf i (lpf x i m) hb.1 (per_rep hi (lpf_per hm hi) (by omega))
  · intro hlt i q h0 hr
    obtain ⟨k1, k2⟩ := rep_lpf h0 hr
    have h7 := h6 i (q + q) trivial (by omega) k1
    have h8 : s.1 * lpf x i (q + q) ≤ s.1 * q := Nat.mul_le_mul_left _ k2
    have h9 : (q + q) * s.2 ≤ s.1 * q := Nat.le_trans h7 h8
    have h10 : q * (2 * s.2) ≤ q * s.1 := by
      calc q * (2 * s.2) = (q + q) * s.2 := by rw [← Nat.mul_assoc, Nat.mul_comm q 2, Nat.two_mul]
        _ ≤ s.1 * q := h9
        _ = q * s.1 := Nat.mul_comm _ _
    have := Nat.le_of_mul_le_mul_left h10 h0
    omega
theorem ge_overlap {x : ByteArray} {s : Nat × Nat} (h : GeB x allS s) : reps (bl x) (eP 2 1) = [] ↔ s.1 ≤ 2 * s.2 := by
  obtain ⟨h1, h2, _, _, h5, h6⟩ := h
  have he : ∀ q, eP 2 1 q = q + 1 := fun q => by unfold eP; omega
  rw [List.eq_nil_iff_forall_not_mem]
  constructor
  · intro hf
    refine Nat.le_of_not_lt fun hc => ?_
    rcases h5 with rfl | ⟨i, m, hm, hi, rfl⟩
    · exact absurd hc (by decide)
    · have hb := lpf_bd hm hi
      have hc' : 2 * lpf x i m < m := hc
      exact hf (i, lpf x i m) (mem_reps.2 ⟨hb.1, by rw [he]; exact per_rep hi (lpf_per hm hi) (by omega)⟩)
  · rintro hle ⟨i, q⟩ hp
    obtain ⟨h0, hr⟩ := mem_reps.1 hp
    rw [he] at hr
    have h0' : 0 < q := h0
    obtain ⟨k1, k2⟩ := rep_lpf h0' hr
    have h7 := h6 i (q + (q + 1)) trivial (by omega) k1
    have h8 : s.1 * lpf x i (q + (q + 1)) ≤ s.1 * q := Nat.mul_le_mul_left _ k2
    have h9 : s.1 * q ≤ 2 * s.2 * q := Nat.mul_le_mul_right _ hle
    have h10 : (q + (q + 1)) * s.2 = 2 * s.2 * q + s.2 := by
      rw [show q + (q + 1) = 2 * q + 1 by omega, Nat.add_mul, Nat.one_mul, Nat.mul_right_comm]
    omega
theorem gcd_scale {a b c : Nat} (ha : 0 < a) : (a < c * b ↔ a / Nat.gcd a b < c * (b / Nat.gcd a b)) ∧ (a ≤ c * b ↔ a / Nat.gcd a b ≤ c * (b / Nat.gcd a b)) := by
  have g := Nat.gcd_pos_of_pos_left b ha
  obtain ⟨u, hu⟩ := Nat.gcd_dvd_left a b
  obtain ⟨v, hv⟩ := Nat.gcd_dvd_right a b
  have q1 : a / Nat.gcd a b = u := Nat.div_eq_of_eq_mul_right g hu
  have q2 : b / Nat.gcd a b = v := Nat.div_eq_of_eq_mul_right g hv
  rw [q1, q2]
  generalize Nat.gcd a b = d at *
  subst hu hv
  rw [show c * (d * v) = d * (c * v) by rw [Nat.mul_left_comm]]
  exact ⟨Nat.mul_lt_mul_left g, Nat.mul_le_mul_left_iff g⟩

end Go.Proofs.Ythjbdcoklgnnlab
