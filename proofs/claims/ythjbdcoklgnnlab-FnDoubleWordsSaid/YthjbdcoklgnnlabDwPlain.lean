/- Plain facts: double words. The places that have to be equal, joined step by step, by the program and by the model. -/
import Derived.Test.YthjbdcoklgnnlabWordOfPlain
namespace Go.Proofs.Ythjbdcoklgnnlab
set_option linter.unusedVariables false
set_option linter.unusedSimpArgs false

/-- The program's step: all places with the first x or y have the lesser one. -/
def jn (F : Nat → Nat) (x y k : Nat) : Nat := if F k = x ∨ F k = y then min x y else F k
/-- The model's step: the root b becomes a. -/
def mg (R : Nat → Nat) (a b k : Nat) : Nat := if R k = b then a else R k
def jnS (n far i : Nat) (F : Nat → Nat) : Nat → Nat := if i + far < n then jn F (F i) (F (i + far)) else F
def mgS (n far i : Nat) (R : Nat → Nat) : Nat → Nat := if i + far < n then mg R (R i) (R (i + far)) else R
theorem jnS_yes {n far i : Nat} {F : Nat → Nat} (h : i + far < n) : jnS n far i F = jn F (F i) (F (i + far)) := if_pos h
theorem jnS_no {n far i : Nat} {F : Nat → Nat} (h : ¬ i + far < n) : jnS n far i F = F := if_neg h
theorem mgS_yes {n far i : Nat} {R : Nat → Nat} (h : i + far < n) : mgS n far i R = mg R (R i) (R (i + far)) := if_pos h
theorem mgS_no {n far i : Nat} {R : Nat → Nat} (h : ¬ i + far < n) : mgS n far i R = R := if_neg h
theorem mg_same {R : Nat → Nat} {a b : Nat} (h : a = b) : mg R a b = R := by
  funext k
  unfold mg
  split
  · omega
  · rfl
def fsF (n p q : Nat) : Nat → Nat → Nat
  | 0 => fun k => k
  | i + 1 => jnS n q i (jnS n p i (fsF n p q i))
def rtR (n p q : Nat) : Nat → Nat → Nat
  | 0 => fun k => k
  | i + 1 => mgS n q i (mgS n p i (rtR n p q i))
/-- The same places are together; firsts are firsts. -/
structure Alk (n : Nat) (F R : Nat → Nat) : Prop where
  same : ∀ a b, a < n → b < n → (F a = F b ↔ R a = R b)
  le : ∀ a, a < n → F a ≤ a
  fix : ∀ a, a < n → F (F a) = F a
  rlt : ∀ a, a < n → R a < n
theorem Alk.zero (n : Nat) : Alk n (fun k => k) (fun k => k) := ⟨fun _ _ _ _ => Iff.rfl, fun _ _ => Nat.le_refl _, fun _ _ => rfl, fun _ h => h⟩
theorem jn_in {F : Nat → Nat} {x y k : Nat} (h : F k = x ∨ F k = y) : jn F x y k = min x y := if_pos h
theorem jn_out {F : Nat → Nat} {x y k : Nat} (h : ¬ (F k = x ∨ F k = y)) : jn F x y k = F k := if_neg h
theorem mg_in {R : Nat → Nat} {a b k : Nat} (h : R k = a ∨ R k = b) : mg R a b k = a := by
  unfold mg
  split
  · rfl
  · rcases h with h | h
    · exact h
    · contradiction
theorem mg_out {R : Nat → Nat} {a b k : Nat} (h : ¬ (R k = a ∨ R k = b)) : mg R a b k = R k := if_neg fun e => h (.inr e)
theorem Alk.join {n : Nat} {F R : Nat → Nat} (h : Alk n F R) {i j : Nat} (hi : i < n) (hj : j < n) : Alk n (jn F (F i) (F j)) (mg R (R i) (R j)) := by
  have e1 := h.le i hi
  have e2 := h.le j hj
  have f1 := h.fix i hi
  have f2 := h.fix j hj
  have hm : min (F i) (F j) = F i ∨ min (F i) (F j) = F j := by omega
  have hfm : F (min (F i) (F j)) = min (F i) (F j) := by rcases hm with e | e <;> rw [e] <;> assumption
  have hin : ∀ a, a < n → ((F a = F i ∨ F a = F j) ↔ (R a = R i ∨ R a = R j)) := fun a ha => or_congr (h.same a i ha hi) (h.same a j ha hj)
  refine ⟨fun a b ha hb => ?_, fun a ha => ?_, fun a ha => ?_, fun a ha => ?_⟩
  · by_cases c1 : F a = F i ∨ F a = F j
    · rw [jn_in c1, mg_in ((hin a ha).1 c1)]
      by_cases c2 : F b = F i ∨ F b = F j
      · rw [jn_in c2, mg_in ((hin b hb).1 c2)]
        exact ⟨fun _ => rfl, fun _ => rfl⟩
      · rw [jn_out c2, mg_out (fun e => c2 ((hin b hb).2 e))]
        refine ⟨fun e => absurd ?_ c2, fun e => absurd ((hin b hb).2 (.inl e.symm)) c2⟩
        rcases hm with q | q
        · exact .inl (e.symm.trans q)
        · exact .inr (e.symm.trans q)
    · rw [jn_out c1, mg_out (fun e => c1 ((hin a ha).2 e))]
      by_cases c2 : F b = F i ∨ F b = F j
      · rw [jn_in c2, mg_in ((hin b hb).1 c2)]
        refine ⟨fun e => absurd ?_ c1, fun e => absurd ((hin a ha).2 (.inl e)) c1⟩
        rcases hm with q | q
        · exact .inl (e.trans q)
        · exact .inr (e.trans q)
      · rw [jn_out c2, mg_out (fun e => c2 ((hin b hb).2 e))]
        exact h.same a b ha hb
  · have := h.le a ha
    by_cases c : F a = F i ∨ F a = F j
    · rw [jn_in c]; omega
    · rw [jn_out c]; exact this
  · by_cases c : F a = F i ∨ F a = F j
    · rw [jn_in c]
      exact jn_in (by rw [hfm]; exact hm)
    · rw [jn_out c]
      have q := h.fix a ha
      rw [jn_out (by rw [q]; exact c)]
      exact q
  · by_cases c : R a = R i ∨ R a = R j
    · rw [mg_in c]; exact h.rlt i hi
    · rw [mg_out c]; exact h.rlt a ha
theorem Alk.step {n : Nat} {F R : Nat → Nat} (h : Alk n F R) (far : Nat) {i : Nat} (hi : i < n) : Alk n (jnS n far i F) (mgS n far i R) := by
  by_cases c : i + far < n
  · rw [jnS_yes c, mgS_yes c]; exact h.join hi c
  · rw [jnS_no c, mgS_no c]; exact h
theorem Alk.all (n p q : Nat) : ∀ i, i ≤ n → Alk n (fsF n p q i) (rtR n p q i)
  | 0, _ => Alk.zero n
  | i + 1, h => ((Alk.all n p q i (by omega)).step p (by omega)).step q (by omega)

theorem Alk.first {n : Nat} {F R : Nat → Nat} (h : Alk n F R) {i k : Nat} (hi : i < n) (hk : k < F i) : ¬ R k = R i := fun e => by
  have h1 := h.le i hi
  have h2 := (h.same k i (by omega) hi).2 e
  have h3 := h.le k (by omega)
  omega
theorem Alk.hit {n : Nat} {F R : Nat → Nat} (h : Alk n F R) {i : Nat} (hi : i < n) : R (F i) = R i := (h.same (F i) i (by have := h.le i hi; omega) hi).1 (h.fix i hi)
/-- Between the steps of a place. -/
def farT (p q t : Nat) : Nat := if t = 0 then p else q
def fsT (n p q i : Nat) : Nat → Nat → Nat
  | 0 => fsF n p q i
  | 1 => jnS n p i (fsF n p q i)
  | _ + 2 => fsF n p q (i + 1)
def rtT (n p q i : Nat) : Nat → Nat → Nat
  | 0 => rtR n p q i
  | 1 => mgS n p i (rtR n p q i)
  | _ + 2 => rtR n p q (i + 1)
theorem fsT_step {n p q i t : Nat} (h : t < 2) : fsT n p q i (t + 1) = jnS n (farT p q t) i (fsT n p q i t) := by
  rcases t with _ | _ | t
  · rfl
  · rfl
  · omega
theorem rtT_step {n p q i t : Nat} (h : t < 2) : rtT n p q i (t + 1) = mgS n (farT p q t) i (rtT n p q i t) := by
  rcases t with _ | _ | t
  · rfl
  · rfl
  · omega
theorem Alk.mid {n p q i : Nat} (hi : i < n) : ∀ t, Alk n (fsT n p q i t) (rtT n p q i t)
  | 0 => Alk.all n p q i (by omega)
  | 1 => (Alk.all n p q i (by omega)).step p hi
  | _ + 2 => Alk.all n p q (i + 1) (by omega)
/-- The number of the places ahead that are their own firsts. -/
def usedF (F : Nat → Nat) : Nat → Nat
  | 0 => 0
  | k + 1 => usedF F k + if F k = k then 1 else 0
theorem usedF_yes {F : Nat → Nat} {k : Nat} (h : F k = k) : usedF F (k + 1) = usedF F k + 1 := by rw [usedF, if_pos h]
theorem usedF_no {F : Nat → Nat} {k : Nat} (h : ¬ F k = k) : usedF F (k + 1) = usedF F k := by rw [usedF, if_neg h]; rfl
theorem usedF_le (F : Nat → Nat) : ∀ k, usedF F k ≤ k
  | 0 => Nat.le_refl _
  | k + 1 => by
    have := usedF_le F k
    rw [usedF]
    split <;> omega
theorem usedF_mono (F : Nat → Nat) (j : Nat) : ∀ k, j ≤ k → usedF F j ≤ usedF F k
  | 0, h => by rw [show j = 0 by omega]; exact Nat.le_refl _
  | k + 1, h => by
    by_cases e : j = k + 1
    · subst e; exact Nat.le_refl _
    · have := usedF_mono F j k (by omega)
      rw [usedF]
      omega
/-- The number of a place. -/
def numF (F : Nat → Nat) (i : Nat) : Nat := usedF F (F i)
/-- The places have at most five numbers. -/
def few (F : Nat → Nat) (n : Nat) : Prop := ∀ i, i < n → numF F i ≤ 4
instance (F : Nat → Nat) (n : Nat) : Decidable (few F n) := by unfold few; exact inferInstance
theorem few_used {F : Nat → Nat} {n : Nat} (h : few F n) : ∀ k, k ≤ n → usedF F k ≤ 5
  | 0, _ => by simp [usedF]
  | k + 1, hk => by
    have h1 := few_used h k (by omega)
    by_cases c : F k = k
    · have := h k (by omega)
      unfold numF at this
      rw [c] at this
      rw [usedF_yes c]
      omega
    · rw [usedF_no c]; exact h1
/-- Numbers as a list. -/
def fl (n : Nat) (G : Nat → Nat) : List Int := (List.range n).map fun j => (G j : Int)
theorem fl_len (n : Nat) (G : Nat → Nat) : (fl n G).length = n := by simp [fl]
theorem fl_get (n : Nat) (G : Nat → Nat) (j : Nat) (h : j < (fl n G).length) : (fl n G)[j]'h = (G j : Int) := by simp [fl]
theorem fl_congr {n : Nat} {G H : Nat → Nat} (h : ∀ j, j < n → G j = H j) : fl n G = fl n H := by
  unfold fl
  refine List.map_congr_left fun j hj => ?_
  rw [h j (List.mem_range.1 hj)]
theorem fl_snoc (n : Nat) (G : Nat → Nat) : fl n G ++ [(G n : Int)] = fl (n + 1) G := by simp [fl, List.range_succ]
theorem fl_okN {n : Nat} {F : Nat → Nat} : okN (fl n (numF F)) ↔ few F n := by
  constructor
  · intro h i hi
    have := (h i (by rw [fl_len]; exact hi)).2
    rw [fl_get] at this
    omega
  · intro h j hj
    rw [fl_get]
    have := h j (by rw [fl_len] at hj; exact hj)
    omega

/-- The length and the word. -/
def dwN (p q : Nat) : Nat := p + q - Nat.gcd p q - 1
def dwF (p q : Nat) : Nat → Nat := fsF (dwN p q) p q (dwN p q)
def dwR (p q : Int) : ByteArray × Int := if ¬ (1 ≤ p ∧ p ≤ 60 ∧ 1 ≤ q ∧ q ≤ 60) then (⟨#[]⟩, 2) else if 60 < dwN p.toNat q.toNat ∨ ¬ few (dwF p.toNat q.toNat) (dwN p.toNat q.toNat) then (⟨#[]⟩, 3) else (wordB (fl (dwN p.toNat q.toNat) (numF (dwF p.toNat q.toNat))), 0)
theorem dwR_bad {p q : Int} (h : ¬ (1 ≤ p ∧ p ≤ 60 ∧ 1 ≤ q ∧ q ≤ 60)) : dwR p q = (⟨#[]⟩, 2) := if_pos h
theorem dwR_long {p q : Nat} (h : 1 ≤ p ∧ p ≤ 60 ∧ 1 ≤ q ∧ q ≤ 60) (h2 : 60 < dwN p q) : dwR p q = (⟨#[]⟩, 3) := by
  unfold dwR
  rw [if_neg (not_not_intro (by omega)), if_pos (.inl h2)]
theorem dwR_many {p q : Nat} (h : 1 ≤ p ∧ p ≤ 60 ∧ 1 ≤ q ∧ q ≤ 60) (h2 : ¬ few (dwF p q) (dwN p q)) : dwR p q = (⟨#[]⟩, 3) := by
  unfold dwR
  rw [if_neg (not_not_intro (by omega)), if_pos (.inr h2)]
theorem dwR_ok {p q : Nat} (h : 1 ≤ p ∧ p ≤ 60 ∧ 1 ≤ q ∧ q ≤ 60) (h1 : ¬ 60 < dwN p q) (h2 : few (dwF p q) (dwN p q)) : dwR p q = (wordB (fl (dwN p q) (numF (dwF p q))), 0) := by
  unfold dwR
  rw [if_neg (not_not_intro (by omega)), if_neg (by intro h3; rcases h3 with h3 | h3; exact h1 h3; exact h3 h2)]
  rfl

end Go.Proofs.Ythjbdcoklgnnlab
