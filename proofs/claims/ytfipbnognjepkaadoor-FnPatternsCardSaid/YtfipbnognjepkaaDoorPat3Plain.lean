/- Plain facts: the model's fit, words that avoid a pattern, Zimin words. -/
import Derived.Test.YtfipbnognjepkaaDoorPat2Plain
import Derived.Test.YtfipbnognjepkaaDoorNextPlain
namespace Go.Proofs.YtfipbnognjepkaaDoor
set_option linter.unusedVariables false
set_option linter.unusedSimpArgs false

/-- Do some values, among them those that are told, make R out of P? -/
def fitE (R P : List UInt8) (V : Nat → List UInt8) : Prop := ∃ W : Nat → List UInt8, (∀ v, V v ≠ [] → W v = V v) ∧ (∀ c ∈ P, W (vn c) ≠ []) ∧ R = subV W P
theorem fitE_fits {R P : List UInt8} : fitE R P (fun _ => []) ↔ Fits R P :=
  ⟨fun ⟨W, _, b, c⟩ => ⟨W, b, c⟩, fun ⟨W, b, c⟩ => ⟨W, fun v h => absurd rfl h, b, c⟩⟩
theorem fitE_nil {R : List UInt8} {V : Nat → List UInt8} : fitE R [] V ↔ R = [] :=
  ⟨fun ⟨W, _, _, c⟩ => c, fun h => ⟨V, fun _ _ => rfl, fun c hc => (by cases hc), h⟩⟩
theorem fitE_short {R P : List UInt8} {V : Nat → List UInt8} (h : R.length < P.length) : ¬ fitE R P V := by
  rintro ⟨W, _, b, c⟩
  have := subV_ge b
  rw [← c] at this
  omega
theorem fitE_told {R P : List UInt8} {V : Nat → List UInt8} {c : UInt8} (h : V (vn c) ≠ []) : fitE R (c :: P) V ↔ (R.take (V (vn c)).length = V (vn c) ∧ fitE (R.drop (V (vn c)).length) P V) := by
  constructor
  · rintro ⟨W, a, b, e⟩
    have hw := a _ h
    unfold subV at e
    rw [List.flatMap_cons, hw] at e
    rw [e, List.take_left, List.drop_left]
    exact ⟨rfl, W, a, fun d hd => b d (List.mem_cons_of_mem _ hd), rfl⟩
  · rintro ⟨h1, W, a, b, e⟩
    refine ⟨W, a, fun d hd => ?_, ?_⟩
    · rcases List.mem_cons.1 hd with rfl | hd
      · rw [a _ h]; exact h
      · exact b d hd
    · unfold subV at e ⊢
      rw [List.flatMap_cons, ← e, a _ h, ← h1, List.length_take]
      have : (min (V (vn c)).length R.length) = (V (vn c)).length := by
        have := congrArg List.length h1
        rw [List.length_take] at this
        exact this
      rw [this, List.take_append_drop]
theorem fitE_open {R P : List UInt8} {V : Nat → List UInt8} {c : UInt8} (h : V (vn c) = []) : fitE R (c :: P) V ↔ ∃ n, 1 ≤ n ∧ n + P.length ≤ R.length ∧ fitE (R.drop n) P (updV V (vn c) (R.take n)) := by
  constructor
  · rintro ⟨W, a, b, e⟩
    have hne := b c (List.mem_cons_self ..)
    have hpos : 0 < (W (vn c)).length := List.length_pos_iff.2 hne
    unfold subV at e
    rw [List.flatMap_cons] at e
    have hge := subV_ge (W := W) (P := P) (fun d hd => b d (List.mem_cons_of_mem _ hd))
    unfold subV at hge
    refine ⟨(W (vn c)).length, hpos, by rw [e, List.length_append]; omega, W, fun v hv => ?_, fun d hd => b d (List.mem_cons_of_mem _ hd), by rw [e, List.drop_left]; rfl⟩
    by_cases q : v = vn c
    · rw [q, updV_at, e, List.take_left]
    · rw [updV_ne _ _ q] at hv ⊢
      exact a v hv
  · rintro ⟨n, h1, h2, W, a, b, e⟩
    have hlen : (R.take n).length = n := by rw [List.length_take]; omega
    have hne : R.take n ≠ [] := fun q => by rw [q] at hlen; simp at hlen; omega
    have hw : W (vn c) = R.take n := by rw [a (vn c) (by rw [updV_at]; exact hne), updV_at]
    refine ⟨W, fun v hv => ?_, fun d hd => ?_, ?_⟩
    · by_cases q : v = vn c
      · rw [q] at hv; exact absurd h hv
      · rw [a v (by rw [updV_ne _ _ q]; exact hv), updV_ne _ _ q]
    · rcases List.mem_cons.1 hd with rfl | hd
      · rw [hw]; exact hne
      · exact b d hd
    · unfold subV at e ⊢
      rw [List.flatMap_cons, ← e, hw, List.take_append_drop]

/-! ### Words that avoid a pattern. -/
def avTo (D : List UInt8 → List (List UInt8)) (P l : List UInt8) : Nat → List (List UInt8)
  | 0 => []
  | j + 1 => avTo D P l j ++ (if pendB (l ++ [letB (j : Int)]) P = true then [] else D (l ++ [letB (j : Int)]))
/-- All words that go on from l by n letters, of the first k, and do not end with a factor that fits. -/
def avW (P : List UInt8) (k : Nat) : Nat → List UInt8 → List (List UInt8)
  | 0, l => [l]
  | n + 1, l => avTo (avW P k n) P l k
theorem avTo_hit {D : List UInt8 → List (List UInt8)} {P l : List UInt8} {j : Nat} (h : pendB (l ++ [letB (j : Int)]) P = true) : avTo D P l (j + 1) = avTo D P l j := by rw [avTo, if_pos h, List.append_nil]
theorem avTo_miss {D : List UInt8 → List (List UInt8)} {P l : List UInt8} {j : Nat} (h : pendB (l ++ [letB (j : Int)]) P = false) : avTo D P l (j + 1) = avTo D P l j ++ D (l ++ [letB (j : Int)]) := by rw [avTo, if_neg (by rw [h]; decide)]
theorem avTo_len {D : List UInt8 → List (List UInt8)} {B : Nat} (hD : ∀ m, (D m).length ≤ B) (P l : List UInt8) : ∀ j, (avTo D P l j).length ≤ j * B
  | 0 => by rw [avTo]; simp
  | j + 1 => by
    have h := avTo_len hD P l j
    rw [Nat.succ_mul]
    cases e : pendB (l ++ [letB (j : Int)]) P with
    | true => rw [avTo_hit e]; omega
    | false =>
      rw [avTo_miss e, List.length_append]
      have := hD (l ++ [letB (j : Int)])
      omega
theorem avW_len (P : List UInt8) (k : Nat) : ∀ (n : Nat) (l : List UInt8), (avW P k n l).length ≤ k ^ n
  | 0, l => by rw [avW]; simp
  | n + 1, l => by
    rw [avW, Nat.pow_succ, Nat.mul_comm]
    exact avTo_len (avW_len P k n) P l k
theorem avTo_mem {D : List UInt8 → List (List UInt8)} {P l s : List UInt8} : ∀ {j : Nat}, s ∈ avTo D P l j → ∃ c, c < j ∧ pendB (l ++ [letB (c : Int)]) P = false ∧ s ∈ D (l ++ [letB (c : Int)])
  | 0, h => (by rw [avTo] at h; cases h)
  | j + 1, h => by
    cases e : pendB (l ++ [letB (j : Int)]) P with
    | true =>
      rw [avTo_hit e] at h
      obtain ⟨c, a, b⟩ := avTo_mem h
      exact ⟨c, by omega, b⟩
    | false =>
      rw [avTo_miss e, List.mem_append] at h
      rcases h with h | h
      · obtain ⟨c, a, b⟩ := avTo_mem h
        exact ⟨c, by omega, b⟩
      · exact ⟨j, by omega, e, h⟩
theorem avW_size (P : List UInt8) (k : Nat) : ∀ (n : Nat) (l : List UInt8), ∀ s ∈ avW P k n l, s.length = l.length + n
  | 0, l, s, h => by rw [avW, List.mem_singleton] at h; subst h; rfl
  | n + 1, l, s, h => by
    rw [avW] at h
    obtain ⟨c, _, _, h2⟩ := avTo_mem h
    rw [avW_size P k n _ s h2, List.length_append, List.length_singleton]
    omega
theorem avW_free (P : List UInt8) (hP : IsPL P) (h0 : P ≠ []) (k : Nat) : ∀ (n : Nat) (l : List UInt8), hasB l P = false → ∀ s ∈ avW P k n l, hasB s P = false
  | 0, l, hl, s, h => by rw [avW, List.mem_singleton] at h; subst h; exact hl
  | n + 1, l, hl, s, h => by
    rw [avW] at h
    obtain ⟨c, _, h1, h2⟩ := avTo_mem h
    refine avW_free P hP h0 k n _ ?_ s h2
    rw [Bool.eq_false_iff]
    intro e
    rcases (hasB_snoc hP h0).1 e with e | e
    · rw [e] at hl; cases hl
    · rw [e] at h1; cases h1
/-- The first word, if there is one. -/
def headR (L : List (List UInt8)) : ByteArray × Int := match L with
  | [] => (⟨#[]⟩, 4)
  | s :: _ => (bt s, 0)

/-! ### Zimin words. -/
def zimL : Nat → List UInt8
  | 0 => []
  | n + 1 => zimL n ++ (letB (n : Int) :: zimL n)
theorem zimL_len : ∀ n, (zimL n).length + 1 = 2 ^ n
  | 0 => rfl
  | n + 1 => by
    have := zimL_len n
    rw [zimL, List.length_append, List.length_cons, Nat.pow_succ]
    omega

end Go.Proofs.YtfipbnognjepkaaDoor
