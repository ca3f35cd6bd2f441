/- Plain facts: turned words, how many different ones there are. -/
import Derived.Test.YtfipbnognjepkaaGreatDoorLexPlain
import Derived.Test.YtfipbnognjepkaaGreatDoorPerPlain
namespace Go.Proofs.YtfipbnognjepkaaGreatDoor
set_option linter.unusedVariables false
set_option linter.unusedSimpArgs false

/-- A letter, round and round. -/
def cyc (l : List UInt8) (i : Nat) : Option UInt8 := l[i % l.length]?
theorem cyc_lt {l : List UInt8} {i : Nat} (h : i < l.length) : cyc l i = l[i]? := by unfold cyc; rw [Nat.mod_eq_of_lt h]
theorem cyc_mod (l : List UInt8) (i : Nat) : cyc l (i % l.length) = cyc l i := by unfold cyc; rw [Nat.mod_mod]
theorem rotL_get {l : List UInt8} {k i : Nat} (hk : k ≤ l.length) (hi : i < l.length) : (rotL l k)[i]? = cyc l (i + k) := by
  unfold rotL cyc
  by_cases h : i + k < l.length
  · rw [Nat.mod_eq_of_lt h, List.getElem?_append_left (by rw [List.length_drop]; omega), List.getElem?_drop, Nat.add_comm]
  · rw [List.getElem?_append_right (by rw [List.length_drop]; omega), List.length_drop, List.getElem?_take_of_lt (by omega)]
    have : (i + k) % l.length = i - (l.length - k) := by
      rw [show i + k = (i - (l.length - k)) + l.length by omega, Nat.add_mod_right, Nat.mod_eq_of_lt (by omega)]
    rw [this]
/-- Letters e places apart are equal, round and round. -/
def Cyc (l : List UInt8) (e : Nat) : Prop := ∀ i, cyc l (i + e) = cyc l i
theorem Cyc.zero (l : List UInt8) : Cyc l 0 := fun _ => rfl
theorem Cyc.n (l : List UInt8) : Cyc l l.length := fun i => by unfold cyc; rw [Nat.add_mod_right]
theorem Cyc.add {l : List UInt8} {a b : Nat} (h : Cyc l a) (k : Cyc l b) : Cyc l (a + b) := fun i => by rw [← Nat.add_assoc, k, h]
theorem Cyc.sub {l : List UInt8} {a b : Nat} (h : Cyc l a) (k : Cyc l b) (hle : a ≤ b) : Cyc l (b - a) := fun i => by
  rw [← h (i + (b - a)), show i + (b - a) + a = i + b by omega, k]
theorem Cyc.mul {l : List UInt8} {a : Nat} (h : Cyc l a) : ∀ m, Cyc l (m * a)
  | 0 => by rw [Nat.zero_mul]; exact Cyc.zero l
  | m + 1 => by rw [Nat.succ_mul]; exact (Cyc.mul h m).add h
theorem Cyc.gcd {l : List UInt8} {a b : Nat} (h : Cyc l a) (k : Cyc l b) : Cyc l (Nat.gcd a b) := by
  induction a, b using Nat.gcd.induction with
  | H0 n => rw [Nat.gcd_zero_left]; exact k
  | H1 m n hm ih =>
    rw [Nat.gcd_rec]
    refine ih ?_ h
    have h1 := (h.mul (n / m))
    have h2 := h1.sub k (Nat.div_mul_le_self n m)
    have h3 : n - n / m * m = n % m := by have := Nat.div_add_mod n m; rw [Nat.mul_comm] at this; omega
    rwa [h3] at h2
theorem Cyc.per {l : List UInt8} {e : Nat} (h : Cyc l e) : Per l e := fun i hi => by
  have := h i
  rw [cyc_lt hi, cyc_lt (by omega)] at this
  exact this.symm
/-- Two turned words are equal just so. -/
theorem rot_eq_iff {l : List UInt8} {j k : Nat} (hj : j ≤ k) (hk : k ≤ l.length) (hn : 0 < l.length) : rotL l j = rotL l k ↔ Cyc l (k - j) := by
  constructor
  · intro h i
    have hnj : j ≤ l.length * j := Nat.le_mul_of_pos_left j hn
    have hi : (i + l.length * j - j) % l.length < l.length := Nat.mod_lt _ hn
    have h1 : (rotL l j)[(i + l.length * j - j) % l.length]? = (rotL l k)[(i + l.length * j - j) % l.length]? := by rw [h]
    rw [rotL_get (by omega) hi, rotL_get hk hi] at h1
    unfold cyc at h1 ⊢
    rw [Nat.mod_add_mod, Nat.mod_add_mod, show i + l.length * j - j + j = i + l.length * j by omega, show i + l.length * j - j + k = i + (k - j) + l.length * j by omega, Nat.add_mul_mod_self_left, Nat.add_mul_mod_self_left] at h1
    exact h1.symm
  · intro h
    apply List.ext_getElem?
    intro i
    by_cases hi : i < l.length
    · rw [rotL_get (by omega) hi, rotL_get hk hi, ← h (i + j)]
      congr 1
      omega
    · rw [List.getElem?_eq_none (by rw [rotL_len]; omega), List.getElem?_eq_none (by rw [rotL_len]; omega)]

/-- The length of the root. -/
noncomputable def rl (l : List UInt8) : Nat := if l.length % lp l = 0 then lp l else l.length
theorem rl_pos {l : List UInt8} (h : l ≠ []) : 0 < rl l := by
  unfold rl; have := lp_ok h; have h1 := this.1; have h2 := this.2.1; split <;> omega
theorem rl_le {l : List UInt8} (h : l ≠ []) : rl l ≤ l.length := by
  unfold rl; have := lp_ok h; have h1 := this.1; have h2 := this.2.1; split <;> omega
theorem rl_dvd {l : List UInt8} (h : l ≠ []) : rl l ∣ l.length := by
  unfold rl
  split
  · next e => exact Nat.dvd_of_mod_eq_zero e
  · exact Nat.dvd_refl _
theorem rl_per {l : List UInt8} (h : l ≠ []) : Per l (rl l) := by
  unfold rl
  split
  · exact (lp_ok h).2.2.1
  · exact per_all l
/-- A period that divides the length goes round. -/
theorem cyc_of_per {l : List UInt8} {p : Nat} (h0 : 0 < p) (hp : Per l p) (hd : p ∣ l.length) : Cyc l p := by
  intro i
  by_cases hn : l.length = 0
  · have : l = [] := List.eq_nil_of_length_eq_zero hn
    subst this
    rfl
  have hpl := Nat.le_of_dvd (by omega) hd
  have hi : i % l.length < l.length := Nat.mod_lt _ (by omega)
  rw [← cyc_mod l i]
  have e1 : cyc l (i + p) = cyc l (i % l.length + p) := by unfold cyc; rw [Nat.mod_add_mod]
  rw [e1]
  generalize i % l.length = r at hi ⊢
  by_cases hr : r + p < l.length
  · rw [cyc_lt hr, cyc_lt hi, hp r hr]
  · obtain ⟨t, ht⟩ := hd
    have e2 : cyc l (r + p) = cyc l (r + p - l.length) := by
      unfold cyc
      conv => lhs; rw [show r + p = (r + p - l.length) + l.length by omega, Nat.add_mod_right]
    rw [e2, cyc_lt hi, cyc_lt (by omega)]
    obtain ⟨t', rfl⟩ : ∃ t', t = t' + 1 := ⟨t - 1, by
      cases t with
      | zero => rw [Nat.mul_zero] at ht; omega
      | succ t => rfl⟩
    have h2 : p * (t' + 1) = t' * p + p := by rw [Nat.mul_succ, Nat.mul_comm]
    have h3 := per_mul hp t' (r + p - l.length) (by omega)
    rw [h3]
    congr 1
    omega
theorem rl_cyc {l : List UInt8} (h : l ≠ []) : Cyc l (rl l) := cyc_of_per (rl_pos h) (rl_per h) (rl_dvd h)
/-- Nothing less goes round. -/
theorem rl_least {l : List UInt8} (h : l ≠ []) {e : Nat} (h0 : 0 < e) (h1 : e < rl l) : ¬ Cyc l e := by
  intro hc
  have hn : 0 < l.length := List.length_pos_iff.2 h
  have hle := rl_le h
  have hg := hc.gcd (Cyc.n l)
  have g0 : 0 < Nat.gcd e l.length := Nat.gcd_pos_of_pos_left _ h0
  have ge : Nat.gcd e l.length ≤ e := Nat.gcd_le_left _ h0
  have gd : Nat.gcd e l.length ∣ l.length := Nat.gcd_dvd_right _ _
  have hlp := lp_le h g0 hg.per
  obtain ⟨l0, l1, l2, l3⟩ := lp_ok h
  unfold rl at h1
  split at h1
  · omega
  · next hmod =>
    generalize Nat.gcd e l.length = g at hg g0 ge gd hlp
    have hcl : Cyc l (lp l) := by
      intro i
      obtain ⟨t, ht⟩ := gd
      have ht2 : 2 ≤ t := by
        match t with
        | 0 => rw [Nat.mul_zero] at ht; omega
        | 1 => rw [Nat.mul_one] at ht; omega
        | t + 2 => omega
      have hg2 : 2 * g ≤ l.length := by rw [ht, Nat.mul_comm]; exact Nat.mul_le_mul_left _ ht2
      have hi : i = i % g + i / g * g := by have := Nat.div_add_mod i g; rw [Nat.mul_comm] at this; omega
      have hr : i % g < g := Nat.mod_lt _ g0
      have k1 : cyc l i = cyc l (i % g) := by conv => lhs; rw [hi]
                                              exact (hg.mul (i / g)) _
      have k2 : cyc l (i + lp l) = cyc l (i % g + lp l) := by
        conv => lhs; rw [hi, show i % g + i / g * g + lp l = i % g + lp l + i / g * g by omega]
        exact (hg.mul (i / g)) _
      rw [k1, k2, cyc_lt (show i % g + lp l < l.length by omega), cyc_lt (show i % g < l.length by omega), l2 (i % g) (by omega)]
    have h5 := hcl.gcd (Cyc.n l)
    have h6 := lp_le h (Nat.gcd_pos_of_pos_left _ l0) h5.per
    have h7 : Nat.gcd (lp l) l.length ≤ lp l := Nat.gcd_le_left _ l0
    have h8 : Nat.gcd (lp l) l.length = lp l := by omega
    have h9 : lp l ∣ l.length := by rw [← h8]; exact Nat.gcd_dvd_right _ _
    exact hmod (Nat.mod_eq_zero_of_dvd h9)

/-- The different turned words. -/
theorem rots_nodup {l : List UInt8} (h : l ≠ []) : ((List.range (rl l)).map (rotL l)).Nodup := by
  have hle := rl_le h
  have hn : 0 < l.length := List.length_pos_iff.2 h
  refine List.pairwise_map.2 (List.Pairwise.imp_of_mem ?_ List.pairwise_lt_range)
  intro j k hj hk hlt e
  have hj2 := List.mem_range.1 hj
  have hk2 := List.mem_range.1 hk
  exact rl_least h (e := k - j) (by omega) (by omega) ((rot_eq_iff (by omega) (by omega) hn).1 e)
theorem rots_mem {l : List UInt8} (h : l ≠ []) (k : Nat) (hk : k < l.length) : rotL l k ∈ (List.range (rl l)).map (rotL l) := by
  have h0 := rl_pos h
  have hn : 0 < l.length := List.length_pos_iff.2 h
  refine List.mem_map.2 ⟨k % rl l, List.mem_range.2 (Nat.mod_lt _ h0), ?_⟩
  refine (rot_eq_iff (Nat.mod_le _ _) (by omega) hn).2 ?_
  have h3 : k - k % rl l = k / rl l * rl l := by have := Nat.div_add_mod k (rl l); rw [Nat.mul_comm] at this; omega
  rw [h3]
  exact (rl_cyc h).mul _
theorem rots_of {l : List UInt8} (h : l ≠ []) {z : List UInt8} (hz : z ∈ (List.range (rl l)).map (rotL l)) : ∃ k, k < l.length ∧ rotL l k = z := by
  obtain ⟨k, hk, e⟩ := List.mem_map.1 hz
  have := rl_le h
  exact ⟨k, by have := List.mem_range.1 hk; omega, e⟩
/-- A word less than its turned words is its own root. -/
theorem rl_lyn {l : List UInt8} (h : Lyn l) : rl l = l.length := by
  refine Classical.byContradiction fun hne => ?_
  have hle := rl_le h.1
  have h0 := rl_pos h.1
  have h1 := (lyn_rot l).1 h.2 (rl l) h0 (by omega)
  have hn : 0 < l.length := List.length_pos_iff.2 h.1
  have h2 := (rot_eq_iff (l := l) (j := 0) (k := rl l) (by omega) (by omega) hn).2 (by rw [Nat.sub_zero]; exact rl_cyc h.1)
  have h3 : rotL l 0 = l := by simp [rotL]
  rw [h3] at h2
  rw [← h2] at h1
  exact List.lt_irrefl _ h1

end Go.Proofs.YtfipbnognjepkaaGreatDoor
