/- Plain facts of the top promise: periods of the reversed word, of powers; roots of powers; closures. -/
import Derived.Test.YthjbdcoklgnnlabFnPerPlain
import Derived.Test.YthjbdcoklgnnlabClo
import Derived.Test.YthjbdcoklgnnlabDir
namespace Go.Proofs.Ythjbdcoklgnnlab
set_option linter.unusedVariables false
set_option linter.unusedSimpArgs false

theorem Per.rev {l : List UInt8} {p : Nat} (h : Per l p) : Per l.reverse p := fun i hi => by
  rw [List.length_reverse] at hi
  rw [List.getElem?_reverse (by omega), List.getElem?_reverse (by omega)]
  have := h (l.length - 1 - (i + p)) (by omega)
  rw [show l.length - 1 - (i + p) + p = l.length - 1 - i by omega] at this
  exact this.symm
theorem perT_rev (l : List UInt8) (p : Nat) : perT l.reverse p = perT l p := by
  rw [Bool.eq_iff_iff, perT_iff, perT_iff]
  exact ⟨fun h => by have := h.rev; rwa [List.reverse_reverse] at this, Per.rev⟩
theorem persR_rev (l : List UInt8) (N : Nat) : persR l.reverse N = persR l N := by unfold persR; simp only [perT_rev]
theorem persR_end {l : List UInt8} (h : l ≠ []) : ∃ t, persR l l.length = t ++ [(l.length : Int)] := by
  obtain ⟨k, hk⟩ : ∃ k, l.length = k + 1 := ⟨l.length - 1, by have := List.length_pos_iff.2 h; omega⟩
  refine ⟨persR l k, ?_⟩
  have := persR_hit l k ((perT_iff l (k + 1)).2 (by rw [← hk]; exact per_all l))
  rw [hk, this]; simp
theorem persR_has {l : List UInt8} {p : Nat} (h0 : 0 < p) (hp : p ≤ l.length) (h : Per l p) : (p : Int) ∈ persR l l.length := by
  unfold persR
  refine List.mem_map.2 ⟨p - 1, List.mem_filter.2 ⟨List.mem_range.2 (by omega), ?_⟩, by omega⟩
  rw [show p - 1 + 1 = p by omega]
  exact (perT_iff l p).2 h
theorem repeat_len (l : List UInt8) : ∀ k, (Lib.repeatL l k).length = k * l.length
  | 0 => by simp [Lib.repeatL]
  | k + 1 => by rw [Lib.repeatL_add, Lib.repeatL_one, List.length_append, repeat_len l k, Nat.succ_mul]
theorem repeat_per (l : List UInt8) (k : Nat) : Per (Lib.repeatL l (k + 1)) l.length := by
  rw [← perT_iff]
  unfold perT
  rw [beq_iff_eq]
  have e1 : Lib.repeatL l (k + 1) = l ++ Lib.repeatL l k := by rw [Nat.add_comm, Lib.repeatL_add, Lib.repeatL_one]
  have e2 : Lib.repeatL l (k + 1) = Lib.repeatL l k ++ l := by rw [Lib.repeatL_add, Lib.repeatL_one]
  have e3 : (Lib.repeatL l (k + 1)).length - l.length = (Lib.repeatL l k).length := by rw [e2, List.length_append]; omega
  rw [e3]
  conv => lhs; rw [e1]
  conv => rhs; rw [e2]
  simp
theorem bl_pow (x : ByteArray) (k : Nat) : bl (pow x k) = Lib.repeatL (bl x) k := by simp [bl, pow]
theorem pow_per (x : ByteArray) (k : Nat) (h : 0 < k) : Per (bl (pow x k)) x.size := by
  obtain ⟨j, rfl⟩ : ∃ j, k = j + 1 := ⟨k - 1, by omega⟩
  rw [bl_pow]
  exact repeat_per (bl x) j
theorem rl_dvd_cyc {l : List UInt8} (h : l ≠ []) {m : Nat} (hm : Cyc l m) : rl l ∣ m := by
  have hg := (rl_cyc h).gcd hm
  have hp := rl_pos h
  have h1 : Nat.gcd (rl l) m ≤ rl l := Nat.gcd_le_left _ hp
  have h2 : 0 < Nat.gcd (rl l) m := Nat.gcd_pos_of_pos_left _ hp
  by_cases e : Nat.gcd (rl l) m < rl l
  · exact absurd hg (rl_least h h2 e)
  · have e2 : Nat.gcd (rl l) m = rl l := by omega
    rw [← e2]; exact Nat.gcd_dvd_right _ _
theorem IsW.ofL {x : ByteArray} (h : ∀ b ∈ bl x, 97 ≤ b.toNat ∧ b.toNat ≤ 101) (hs : x.size ≤ 60) : IsW x := ⟨hs, fun i hi => h _ (List.getElem_mem (l := bl x) (by rw [bl_len]; exact hi))⟩
theorem IsW.toL {x : ByteArray} (h : IsW x) : ∀ b ∈ bl x, 97 ≤ b.toNat ∧ b.toNat ≤ 101 := by
  intro b hb
  obtain ⟨i, hi, rfl⟩ := List.getElem_of_mem hb
  exact h.2 i (by rw [bl_len] at hi; exact hi)
theorem mem_repeat {l : List UInt8} {b : UInt8} : ∀ k, b ∈ Lib.repeatL l k → b ∈ l
  | 0, h => by simp [Lib.repeatL] at h
  | k + 1, h => by
    rw [Lib.repeatL_add, Lib.repeatL_one, List.mem_append] at h
    rcases h with h | h
    · exact mem_repeat k h
    · exact h
theorem pow_isW {x : ByteArray} (h : IsW x) (k : Nat) (hs : x.size * k ≤ 60) : IsW (pow x k) := IsW.ofL (fun b hb => h.toL b (by rw [bl_pow] at hb; exact mem_repeat k hb)) (by rw [pow_size]; exact hs)
theorem rev_size' (x : ByteArray) : (rev x).size = x.size := by
  have := congrArg List.length (bl_rev x)
  rwa [List.length_reverse, bl_len, bl_len] at this
theorem rev_isW {x : ByteArray} (h : IsW x) : IsW (rev x) := IsW.ofL (fun b hb => h.toL b (by rw [bl_rev, List.mem_reverse] at hb; exact hb)) (by rw [rev_size']; exact h.size)
/-- What the top promise tells of a word with letters. -/
structure TopW (x : ByteArray) : Prop where
  two : periodsR (rev x) = periodsR x
  pos : 0 < (periodsR x).1.length
  last : ∀ h : (periodsR x).1.length - 1 < (periodsR x).1.length, (periodsR x).1[(periodsR x).1.length - 1]'h = (x.size : Int)
theorem topW {x : ByteArray} (h : IsW x) (h0 : 0 < x.size) : TopW x := by
  have hr := rev_isW h
  obtain ⟨t, ht⟩ := persR_end (bl_ne h0)
  rw [bl_len] at ht
  have e : (periodsR x).1 = t ++ [(x.size : Int)] := by rw [periodsR_ok h]; exact ht
  refine ⟨?_, by rw [e]; simp, ?_⟩
  · have es := rev_size' x
    rw [periodsR_ok h, periodsR_ok hr, bl_rev, persR_rev, es]
  · rw [e]; intro hh; simp
/-- What it tells of a power. -/
theorem topP {x : ByteArray} (h : IsW x) (h0 : 0 < x.size) {k : Nat} (hk : 0 < k) (hs : x.size * k ≤ 60) :
    (x.size : Int) ∈ (periodsR (pow x k)).1 ∧ (periodsR (pow x k)).2 = 0 ∧ (rootR (pow x k)).2.2 = 0 ∧ ∃ c : Nat, (rootR (pow x k)).2.1 = ((c * k : Nat) : Int) ∧ (rootR (pow x k)).1.size * c = x.size := by
  have hw := pow_isW h k hs
  have hz : (pow x k).size = x.size * k := pow_size x k
  have hpos : 0 < (pow x k).size := by rw [hz]; exact Nat.mul_pos h0 hk
  have hle : x.size ≤ (pow x k).size := by rw [hz]; exact Nat.le_mul_of_pos_right _ hk
  have hper := pow_per x k hk
  have hne := bl_ne hpos
  have hcyc : Cyc (bl (pow x k)) x.size := cyc_of_per h0 hper (by rw [bl_len, hz]; exact Nat.dvd_mul_right _ _)
  obtain ⟨c, hc⟩ := rl_dvd_cyc hne hcyc
  have r0 := rl_pos hne
  have r1 := rl_le hne
  rw [bl_len] at r1
  refine ⟨?_, by rw [periodsR_ok hw], by rw [rootR_ok hw (by omega)], c, ?_, ?_⟩
  · rw [periodsR_ok hw]
    have := persR_has h0 (by rw [bl_len]; exact hle) hper
    rwa [bl_len] at this
  · rw [rootR_ok hw (by omega)]
    show (((pow x k).size / rl (bl (pow x k)) : Nat) : Int) = _
    rw [hz, hc, Nat.mul_assoc, Nat.mul_div_cancel_left _ r0]
  · rw [rootR_ok hw (by omega)]
    show ((pow x k).extract 0 (rl (bl (pow x k)))).size * c = x.size
    rw [show ((pow x k).extract 0 (rl (bl (pow x k)))).size = rl (bl (pow x k)) by simp; omega]
    exact hc.symm
/-- What it tells of the closure. -/
theorem topC {x : ByteArray} (h : IsW x) (hc : (cloR x).2 = 0) : ispR (cloR x).1 = (true, 0) ∧ x.size ≤ (cloR x).1.size ∧ (cloR x).1.extract 0 x.size = x ∧ (cloR x).1.size ≤ 60 := by
  by_cases hl : 60 < (clo x).size
  · rw [cloR_long h hl] at hc; cases hc
  · rw [cloR_ok h hl]
    have hw : IsW (clo x) := (isL_clo h.lets).word (by omega)
    refine ⟨by rw [ispR_ok hw, clo_pal], by show x.size ≤ (clo x).size; rw [clo_size]; omega, ?_, by show (clo x).size ≤ 60; omega⟩
    show (clo x).extract 0 x.size = x
    apply bl_inj
    rw [bl_take, bl_clo]
    unfold cloL
    rw [List.take_append_of_le_length (by rw [bl_len]; exact Nat.le_refl _), List.take_of_length_le (by rw [bl_len]; exact Nat.le_refl _)]
theorem topC_code {x : ByteArray} (h : IsW x) : (cloR x).2 = 0 ∨ (cloR x).2 = 3 := by
  by_cases hl : 60 < (clo x).size
  · rw [cloR_long h hl]; exact .inr rfl
  · rw [cloR_ok h hl]; exact .inl rfl

end Go.Proofs.Ythjbdcoklgnnlab
