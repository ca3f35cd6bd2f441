/- Plain facts: the greatest exponent of a factor. -/
import Derived.Test.YtddfdciohnabbabPerRPlain
namespace Go.Proofs.Ytddfdciohnabbab
set_option linter.unusedVariables false
set_option linter.unusedSimpArgs false

/-- The least period of the factor at i with m letters. -/
noncomputable def lpf (x : ByteArray) (i m : Nat) : Nat := lp (bl (x.extract i (i + m)))
theorem lpf_bd {x : ByteArray} {i m : Nat} (hm : 0 < m) (h : i + m ≤ x.size) : 0 < lpf x i m ∧ lpf x i m ≤ m := by
  have z : (x.extract i (i + m)).size = m := by simp; omega
  have h1 := lp_ok (bl_ne (x := x.extract i (i + m)) (by omega))
  have h2 := h1.2.1
  rw [bl_len, z] at h2
  exact ⟨h1.1, h2⟩
def geStep (s : Nat × Nat) (m p : Nat) : Nat × Nat := if s.1 * p < m * s.2 then (m, p) else s
/-- The greatest of the exponents seen, as letters and period. -/
def GeB (x : ByteArray) (seen : Nat → Nat → Prop) (s : Nat × Nat) : Prop :=
  0 < s.1 ∧ 0 < s.2 ∧ s.1 ≤ max 1 x.size ∧ s.2 ≤ s.1 ∧ (s = (1, 1) ∨ ∃ i m, 0 < m ∧ i + m ≤ x.size ∧ s = (m, lpf x i m)) ∧ ∀ i m, seen i m → 0 < m → i + m ≤ x.size → m * s.2 ≤ s.1 * lpf x i m
theorem GeB.start (x : ByteArray) {seen : Nat → Nat → Prop} (h : ∀ i m, ¬ seen i m) : GeB x seen (1, 1) := ⟨by decide, by decide, by show 1 ≤ _; omega, Nat.le_refl _, .inl rfl, fun i m hs => absurd hs (h i m)⟩
theorem GeB.mono {x : ByteArray} {seen seen' : Nat → Nat → Prop} {s : Nat × Nat} (h : GeB x seen s) (hk : ∀ i m, seen' i m → 0 < m → i + m ≤ x.size → seen i m) : GeB x seen' s := ⟨h.1, h.2.1, h.2.2.1, h.2.2.2.1, h.2.2.2.2.1, fun i m hs h0 h1 => h.2.2.2.2.2 i m (hk i m hs h0 h1) h0 h1⟩
theorem GeB.step {x : ByteArray} {seen : Nat → Nat → Prop} {s : Nat × Nat} {i m : Nat} (h : GeB x seen s) (hm : 0 < m) (hi : i + m ≤ x.size) : GeB x (fun i' m' => seen i' m' ∨ (i' = i ∧ m' = m)) (geStep s m (lpf x i m)) := by
  obtain ⟨h1, h2, h3, h4, h5, h6⟩ := h
  obtain ⟨p0, p1⟩ := lpf_bd hm hi
  unfold geStep
  by_cases c : s.1 * lpf x i m < m * s.2
  · rw [if_pos c]
    refine ⟨hm, p0, by show m ≤ _; omega, p1, .inr ⟨i, m, hm, hi, rfl⟩, fun i' m' hs h0 h7 => ?_⟩
    rcases hs with hs | ⟨rfl, rfl⟩
    · have h8 := h6 i' m' hs h0 h7
      show m' * lpf x i m ≤ m * lpf x i' m'
      refine Nat.le_of_mul_le_mul_right (c := s.2) ?_ h2
      calc m' * lpf x i m * s.2 = m' * s.2 * lpf x i m := by rw [Nat.mul_right_comm]
        _ ≤ s.1 * lpf x i' m' * lpf x i m := Nat.mul_le_mul_right _ h8
        _ = s.1 * lpf x i m * lpf x i' m' := by rw [Nat.mul_right_comm]
        _ ≤ m * s.2 * lpf x i' m' := Nat.mul_le_mul_right _ (Nat.le_of_lt c)
        _ = m * lpf x i' m' * s.2 := by rw [Nat.mul_right_comm]
    · exact Nat.le_refl _
  · rw [if_neg c]
    refine ⟨h1, h2, h3, h4, h5, fun i' m' hs h0 h7 => ?_⟩
    rcases hs with hs | ⟨rfl, rfl⟩
    · exact h6 i' m' hs h0 h7
    · omega
/-- One letter alone has the exponent 1. -/
theorem GeB.ones {x : ByteArray} {seen : Nat → Nat → Prop} {s : Nat × Nat} (h : GeB x (fun i m => seen i m ∧ 2 ≤ m) s) : GeB x seen s := by
  refine ⟨h.1, h.2.1, h.2.2.1, h.2.2.2.1, h.2.2.2.2.1, fun i m hs h0 h1 => ?_⟩
  by_cases h2 : 2 ≤ m
  · exact h.2.2.2.2.2 i m ⟨hs, h2⟩ h0 h1
  · have h3 : m = 1 := by omega
    subst h3
    have h4 := lpf_bd (x := x) (i := i) (m := 1) (by decide) h1
    have h5 : lpf x i 1 = 1 := by omega
    have := h.2.2.2.1
    rw [h5]
    omega
abbrev allS : Nat → Nat → Prop := fun _ _ => True
theorem GeB.le {x : ByteArray} {s t : Nat × Nat} (h : GeB x allS s) (k : GeB x allS t) : s.1 * t.2 ≤ t.1 * s.2 := by
  rcases h.2.2.2.2.1 with rfl | ⟨i, m, hm, hi, rfl⟩
  · have := k.2.2.2.1
    show 1 * t.2 ≤ t.1 * 1
    omega
  · exact k.2.2.2.2.2 i m trivial hm hi
/-- Two fractions that are one are one in lowest terms. -/
theorem frac_eq {a b c d : Nat} (ha : 0 < a) (hb : 0 < b) (hc : 0 < c) (hd : 0 < d) (h : a * d = c * b) : a / Nat.gcd a b = c / Nat.gcd c d ∧ b / Nat.gcd a b = d / Nat.gcd c d := by
  have g1 := Nat.gcd_pos_of_pos_left b ha
  have g2 := Nat.gcd_pos_of_pos_left d hc
  have e1 : Nat.gcd a b * d = b * Nat.gcd c d := by
    rw [← Nat.gcd_mul_right, h, ← Nat.gcd_mul_left, Nat.mul_comm c b]
  obtain ⟨u, hu⟩ := Nat.gcd_dvd_left a b
  obtain ⟨v, hv⟩ := Nat.gcd_dvd_right a b
  obtain ⟨u', hu'⟩ := Nat.gcd_dvd_left c d
  obtain ⟨v', hv'⟩ := Nat.gcd_dvd_right c d
  have q1 : a / Nat.gcd a b = u := Nat.div_eq_of_eq_mul_right g1 hu
  have q2 : b / Nat.gcd a b = v := Nat.div_eq_of_eq_mul_right g1 hv
  have q3 : c / Nat.gcd c d = u' := Nat.div_eq_of_eq_mul_right g2 hu'
  have q4 : d / Nat.gcd c d = v' := Nat.div_eq_of_eq_mul_right g2 hv'
  rw [q1, q2, q3, q4]
  generalize Nat.gcd a b = g at *
  generalize Nat.gcd c d = g' at *
  have hvv : v = v' := by
    have h1 : g * g' * v' = g * g' * v := by
      calc g * g' * v' = g * (g' * v') := by rw [Nat.mul_assoc]
        _ = g * d := by rw [← hv']
        _ = b * g' := e1
        _ = g * v * g' := by rw [← hv]
        _ = g * g' * v := by rw [Nat.mul_right_comm]
    exact (Nat.eq_of_mul_eq_mul_left (Nat.mul_pos g1 g2) h1).symm
  refine ⟨?_, hvv⟩
  subst hvv
  have hv0 : 0 < v := Nat.pos_of_ne_zero fun e => by rw [e, Nat.mul_zero] at hv; omega
  have h2 : u * (g * g' * v) = u' * (g * g' * v) := by
    calc u * (g * g' * v) = g * u * (g' * v) := by rw [Nat.mul_comm g u, Nat.mul_assoc, Nat.mul_assoc]
      _ = a * d := by rw [← hu, ← hv']
      _ = c * b := h
      _ = g' * u' * (g * v) := by rw [← hu', ← hv]
      _ = u' * (g * g' * v) := by rw [Nat.mul_comm g' u', Nat.mul_assoc, Nat.mul_left_comm g' g v, Nat.mul_assoc]
  exact Nat.eq_of_mul_eq_mul_right (Nat.mul_pos (Nat.mul_pos g1 g2) hv0) h2
theorem ge_uniq {x : ByteArray} {s t : Nat × Nat} (h : GeB x allS s) (k : GeB x allS t) : s.1 / Nat.gcd s.1 s.2 = t.1 / Nat.gcd t.1 t.2 ∧ s.2 / Nat.gcd s.1 s.2 = t.2 / Nat.gcd t.1 t.2 :=
  frac_eq h.1 h.2.1 k.1 k.2.1 (Nat.le_antisymm (h.le k) (k.le h))
theorem ge_list (x : ByteArray) : ∀ (L : List (Nat × Nat)), ∃ s, GeB x (fun i m => (i, m) ∈ L) s
  | [] => ⟨(1, 1), GeB.start x fun i m h => by cases h⟩
  | p :: L => by
    obtain ⟨s, hs⟩ := ge_list x L
    by_cases h : 0 < p.2 ∧ p.1 + p.2 ≤ x.size
    · exact ⟨_, (hs.step h.1 h.2).mono fun i m hm _ _ => by
        rcases List.mem_cons.1 hm with e | e
        · exact .inr ⟨by rw [← e], by rw [← e]⟩
        · exact .inl e⟩
    · exact ⟨s, hs.mono fun i m hm h0 h1 => by
        rcases List.mem_cons.1 hm with e | e
        · exact absurd ⟨by rw [← e]; exact h0, by rw [← e]; exact h1⟩ h
        · exact e⟩
theorem ge_ex (x : ByteArray) : ∃ s, GeB x allS s := by
  obtain ⟨s, hs⟩ := ge_list x ((List.range (x.size + 1)).flatMap fun i => (List.range (x.size + 1)).map fun m => (i, m))
  refine ⟨s, hs.mono fun i m _ h0 h1 => ?_⟩
  rw [List.mem_flatMap]
  exact ⟨i, List.mem_range.2 (by omega), List.mem_map.2 ⟨m, List.mem_range.2 (by omega), rfl⟩⟩
noncomputable def geF (x : ByteArray) : Nat × Nat := (ge_ex x).choose
theorem geF_ok (x : ByteArray) : GeB x allS (geF x) := (ge_ex x).choose_spec
noncomputable def geR (x : ByteArray) : Int × Int × Int := if ¬ IsW x then (0, 0, 1) else if x.size = 0 then (0, 0, 4) else ((((geF x).1 / Nat.gcd (geF x).1 (geF x).2 : Nat) : Int), (((geF x).2 / Nat.gcd (geF x).1 (geF x).2 : Nat) : Int), 0)
theorem geR_bad {x : ByteArray} (h : ¬ IsW x) : geR x = (0, 0, 1) := if_pos h
theorem geR_nil {x : ByteArray} (h : IsW x) (h0 : x.size = 0) : geR x = (0, 0, 4) := by unfold geR; rw [if_neg (not_not_intro h), if_pos h0]
theorem geR_ok {x : ByteArray} (h : IsW x) (h0 : ¬ x.size = 0) {s : Nat × Nat} (hs : GeB x allS s) : geR x = (((s.1 / Nat.gcd s.1 s.2 : Nat) : Int), ((s.2 / Nat.gcd s.1 s.2 : Nat) : Int), 0) := by
  unfold geR
  rw [if_neg (not_not_intro h), if_neg h0, (ge_uniq (geF_ok x) hs).1, (ge_uniq (geF_ok x) hs).2]

end Go.Proofs.Ytddfdciohnabbab
