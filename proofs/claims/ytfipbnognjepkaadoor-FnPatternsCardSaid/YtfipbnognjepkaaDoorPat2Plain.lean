/- Plain facts: words that have patterns, and the searches for words that avoid them. -/
import Derived.Test.YtfipbnognjepkaaDoorPatPlain
namespace Go.Proofs.YtfipbnognjepkaaDoor
set_option linter.unusedVariables false
set_option linter.unusedSimpArgs false

/-- The variables that stand in a pattern. -/
def vsOf (P : List UInt8) : List Nat := [0, 1, 2].filter fun v => decide (0 < cntV P v)
theorem vsOf_mem {P : List UInt8} {v : Nat} : v ∈ vsOf P ↔ v ≤ 2 ∧ 0 < cntV P v := by
  unfold vsOf
  rw [List.mem_filter, decide_eq_true_eq]
  constructor
  · rintro ⟨h, h2⟩
    refine ⟨?_, h2⟩
    simp at h
    omega
  · rintro ⟨h, h2⟩
    refine ⟨?_, h2⟩
    simp
    omega
theorem vsOf_nodup (P : List UInt8) : (vsOf P).Nodup := List.Nodup.sublist List.filter_sublist (by decide)
/-- The values with which a word fits a pattern, of the least lengths. -/
def fitL (R P : List UInt8) (left : Nat) : Option (Nat → List UInt8) := srch R P (vsOf P) (fun _ => 0) left
theorem totL_zero : ∀ P : List UInt8, totL (fun _ => 0) P = 0
  | [] => rfl
  | c :: P => by rw [totL, totL_zero P]
theorem fitL_take (R P : List UInt8) (m : Nat) : fitL (R.take m) P m = fitL R P m := srch_take R P m _ _ _ (vsOf_nodup P) (fun _ _ => rfl) (by rw [totL_zero]; omega)
theorem fitL_sound {R P : List UInt8} {left : Nat} {W : Nat → List UInt8} (hP : IsPL P) (h : fitL R P left = some W) (hl : left ≤ R.length) : (∀ c ∈ P, W (vn c) ≠ []) ∧ R.take left = subV W P := by
  obtain ⟨L', a1, a2, a3, a4⟩ := srch_sound R P _ _ _ W h (vsOf_nodup P) (fun _ _ => rfl)
  have a2' : ∀ c ∈ P, 1 ≤ L' (vn c) := fun c hc => a2 _ (vsOf_mem.2 ⟨hP.vn hc, cntV_pos.2 ⟨c, hc, rfl⟩⟩)
  rw [totL_zero] at a3
  obtain ⟨_, b2, b3⟩ := giv_sound L' P R _ W a4 a2' (by omega)
  refine ⟨fun c hc e => ?_, ?_⟩
  · have h1 := b2 c hc
    have h2 := a2' c hc
    rw [e] at h1
    simp at h1
    omega
  · rw [← b3, a3, Nat.zero_add]
theorem fitL_iff {R P : List UInt8} {left : Nat} (hP : IsPL P) (hl : left ≤ R.length) : (fitL R P left).isSome = true ↔ Fits (R.take left) P := by
  constructor
  · intro h
    obtain ⟨W, hW⟩ := Option.isSome_iff_exists.1 h
    obtain ⟨a, b⟩ := fitL_sound hP hW hl
    exact ⟨W, a, b⟩
  · rintro ⟨W, h1, h2⟩
    obtain ⟨S, hS⟩ : ∃ S, R = subV W P ++ S := ⟨R.drop left, by rw [← h2, List.take_append_drop]⟩
    have hlen : ∀ c ∈ P, (W (vn c)).length = (fun v => if 0 < cntV P v then (W v).length else 0) (vn c) := fun c hc => by
      show _ = if 0 < cntV P (vn c) then _ else _
      rw [if_pos (cntV_pos.2 ⟨c, hc, rfl⟩)]
    refine srch_full R P (vsOf P) _ left (fun v => if 0 < cntV P v then (W v).length else 0) (vsOf_nodup P) (fun _ _ => rfl) (fun v hv => (vsOf_mem.1 hv).2) ?_ ?_ ?_ ?_
    · intro v hv
      by_cases e : 0 < cntV P v
      · obtain ⟨c, hc, rfl⟩ := cntV_pos.1 e
        exact absurd (vsOf_mem.2 ⟨hP.vn hc, e⟩) hv
      · exact if_neg e
    · intro v hv
      obtain ⟨_, h3⟩ := vsOf_mem.1 hv
      show 1 ≤ if 0 < cntV P v then (W v).length else 0
      rw [if_pos h3]
      obtain ⟨c, hc, rfl⟩ := cntV_pos.1 h3
      have := h1 c hc
      rcases Nat.lt_or_ge 0 (W (vn c)).length with q | q
      · exact q
      · exact absurd (List.length_eq_zero_iff.1 (by omega)) this
    · rw [totL_zero, ← subV_len _ W P hlen, ← h2, List.length_take]; omega
    · rw [hS]
      exact giv_full _ W P S _ hlen (fun _ => .inl rfl)
theorem subV_ge {W : Nat → List UInt8} : ∀ {P : List UInt8}, (∀ c ∈ P, W (vn c) ≠ []) → P.length ≤ (subV W P).length
  | [], _ => Nat.zero_le _
  | c :: P, h => by
    have h1 := subV_ge (W := W) (P := P) (fun d hd => h d (List.mem_cons_of_mem _ hd))
    have h2 := h c (List.mem_cons_self ..)
    have h3 : 0 < (W (vn c)).length := by
      rcases Nat.lt_or_ge 0 (W (vn c)).length with q | q
      · exact q
      · exact absurd (List.length_eq_zero_iff.1 (by omega)) h2
    unfold subV at h1 ⊢
    rw [List.flatMap_cons, List.length_append, List.length_cons]
    omega
theorem Fits.ge {R P : List UInt8} (h : Fits R P) : P.length ≤ R.length := by
  obtain ⟨W, h1, rfl⟩ := h
  exact subV_ge h1
theorem fitL_short {R P : List UInt8} {left : Nat} (hP : IsPL P) (hl : left ≤ R.length) (h : left < P.length) : fitL R P left = none := by
  cases e : fitL R P left with
  | none => rfl
  | some W =>
    have h1 := ((fitL_iff hP hl).1 (by rw [e]; rfl)).ge
    rw [List.length_take] at h1
    omega
/-- Does a word fit a pattern? -/
def fitsB (R P : List UInt8) : Bool := (fitL R P R.length).isSome
theorem fitsB_iff {R P : List UInt8} (hP : IsPL P) : fitsB R P = true ↔ Fits R P := by
  unfold fitsB
  rw [fitL_iff hP (Nat.le_refl _), List.take_length]
/-- Does a word end with a factor that fits a pattern, one that begins at a place below j? -/
def pendTo (X P : List UInt8) (j : Nat) : Bool := (List.range j).any fun i => fitsB (X.drop i) P
def pendB (X P : List UInt8) : Bool := pendTo X P X.length
/-- The first factor from the place i on that fits a pattern, of those that end at the places of l. -/
def pffAt (X P : List UInt8) (i : Nat) : Option (Nat × (Nat → List UInt8)) := (List.range (X.length + 1 - (i + P.length))).findSome? fun k => (fitL (X.drop i) P (P.length + k)).map fun W => (i, W)
/-- The first place of a pattern in a word, and the values there. -/
def pff (X P : List UInt8) : Option (Nat × (Nat → List UInt8)) := (List.range X.length).findSome? (pffAt X P)
theorem rseek_none {β : Type} {f : Nat → Option β} {n : Nat} (h : ∀ m, m < n → f m = none) : (List.range n).findSome? f = none := by
  rw [List.findSome?_eq_none_iff]
  intro x hx
  exact h x (List.mem_range.1 hx)
theorem rseek_at {β : Type} {f : Nat → Option β} {n j : Nat} {y : β} (h : ∀ m, m < j → f m = none) (h2 : j < n) (hy : f j = some y) : (List.range n).findSome? f = some y := by
  have e : List.range n = List.range j ++ (List.range' j (n - j)) := by
    rw [List.range_eq_range', List.range_eq_range', show List.range' j (n - j) = List.range' (0 + 1 * j) (n - j) by rw [Nat.zero_add, Nat.one_mul], List.range'_append, show j + (n - j) = n by omega]
  rw [e, List.findSome?_append, rseek_none h, show n - j = (n - j - 1) + 1 by omega, List.range'_succ, List.findSome?_cons, hy]
  rfl
theorem rseek_some {β : Type} {f : Nat → Option β} {n : Nat} {y : β} (h : (List.range n).findSome? f = some y) : ∃ j, j < n ∧ f j = some y ∧ ∀ m, m < j → f m = none := by
  have hh : ∀ l : Nat, l ≤ n → (∃ j, j < l ∧ (∃ z, f j = some z) ∧ ∀ m, m < j → f m = none) ∨ (∀ m, m < l → f m = none) := by
    intro l
    induction l with
    | zero => intro _; exact .inr fun m a => by omega
    | succ l ih =>
      intro hl
      rcases ih (by omega) with ⟨j, a, c⟩ | hn
      · exact .inl ⟨j, by omega, c⟩
      · cases e : f l with
        | some z => exact .inl ⟨l, by omega, ⟨z, e⟩, hn⟩
        | none =>
          refine .inr fun m a => ?_
          rcases Nat.lt_or_ge m l with q | q
          · exact hn m q
          · rw [show m = l by omega]; exact e
  rcases hh n (Nat.le_refl _) with ⟨j, a, ⟨z, hz⟩, c⟩ | hn
  · rw [rseek_at c a hz] at h
    exact ⟨j, a, by rw [hz, ← h], c⟩
  · rw [rseek_none hn] at h; cases h
def hasB (X P : List UInt8) : Bool := (pff X P).isSome
theorem pff_none {X P : List UInt8} : pff X P = none ↔ ∀ i k, i < X.length → i + P.length + k ≤ X.length → fitL (X.drop i) P (P.length + k) = none := by
  unfold pff
  rw [List.findSome?_eq_none_iff]
  constructor
  · intro h i k hi hk
    have h1 := h i (List.mem_range.2 hi)
    unfold pffAt at h1
    rw [List.findSome?_eq_none_iff] at h1
    have h2 := h1 k (List.mem_range.2 (by omega))
    exact Option.map_eq_none_iff.1 h2
  · intro h i hi
    rw [List.mem_range] at hi
    refine rseek_none fun k hk => ?_
    rw [h i k hi (by omega)]; rfl
theorem drop_take_len (X : List UInt8) (i m : Nat) : (X.take (i + m)).drop i = (X.drop i).take m := by rw [List.drop_take, show i + m - i = m by omega]
theorem hasB_iff {X P : List UInt8} (hP : IsPL P) (h0 : P ≠ []) : hasB X P = true ↔ ∃ i m, i + m ≤ X.length ∧ Fits ((X.drop i).take m) P := by
  constructor
  · intro h
    unfold hasB at h
    cases e : pff X P with
    | none => rw [e] at h; cases h
    | some y =>
      unfold pff at e
      obtain ⟨i, hi, h1, _⟩ := rseek_some e
      unfold pffAt at h1
      obtain ⟨k, hk, h2, _⟩ := rseek_some h1
      rw [Option.map_eq_some_iff] at h2
      obtain ⟨W, hW, _⟩ := h2
      exact ⟨i, P.length + k, by omega, (fitL_iff hP (by rw [List.length_drop]; omega)).1 (by rw [hW]; rfl)⟩
  · rintro ⟨i, m, hm, hf⟩
    unfold hasB
    cases e : pff X P with
    | some y => rfl
    | none =>
      have hg := hf.ge
      have hp : 0 < P.length := List.length_pos_iff.2 h0
      rw [List.length_take, List.length_drop] at hg
      have h1 := (pff_none.1 e) i (m - P.length) (by omega) (by omega)
      have h2 := (fitL_iff hP (by rw [List.length_drop]; omega)).2 hf
      rw [show P.length + (m - P.length) = m by omega] at h1
      rw [h1] at h2
      cases h2
theorem pendB_iff {X P : List UInt8} (hP : IsPL P) : pendB X P = true ↔ ∃ i, i < X.length ∧ Fits (X.drop i) P := by
  unfold pendB pendTo
  rw [List.any_eq_true]
  constructor
  · rintro ⟨i, hi, h⟩
    exact ⟨i, List.mem_range.1 hi, (fitsB_iff hP).1 h⟩
  · rintro ⟨i, hi, h⟩
    exact ⟨i, List.mem_range.2 hi, (fitsB_iff hP).2 h⟩
/-- A word has a pattern just if one of its beginnings ends with a factor that fits it. -/
theorem hasB_ends {X P : List UInt8} (hP : IsPL P) (h0 : P ≠ []) : hasB X P = true ↔ ∃ n, P.length ≤ n ∧ n ≤ X.length ∧ pendB (X.take n) P = true := by
  rw [hasB_iff hP h0]
  constructor
  · rintro ⟨i, m, hm, hf⟩
    have hg := hf.ge
    have hp : 0 < P.length := List.length_pos_iff.2 h0
    rw [List.length_take, List.length_drop] at hg
    refine ⟨i + m, by omega, hm, (pendB_iff hP).2 ⟨i, by rw [List.length_take]; omega, by rw [drop_take_len]; exact hf⟩⟩
  · rintro ⟨n, h1, h2, h3⟩
    obtain ⟨i, hi, hf⟩ := (pendB_iff hP).1 h3
    rw [List.length_take] at hi
    exact ⟨i, n - i, by omega, by rw [← List.drop_take]; exact hf⟩
/-- One letter more: the pattern can be at the end alone. -/
theorem hasB_snoc {X P : List UInt8} {c : UInt8} (hP : IsPL P) (h0 : P ≠ []) : hasB (X ++ [c]) P = true ↔ hasB X P = true ∨ pendB (X ++ [c]) P = true := by
  rw [hasB_ends hP h0, hasB_ends hP h0]
  constructor
  · rintro ⟨n, h1, h2, h3⟩
    rw [List.length_append, List.length_singleton] at h2
    by_cases e : n ≤ X.length
    · left
      rw [List.take_append_of_le_length e] at h3
      exact ⟨n, h1, e, h3⟩
    · right
      rw [List.take_of_length_le (by rw [List.length_append, List.length_singleton]; omega)] at h3
      exact h3
  · rintro (⟨n, h1, h2, h3⟩ | h)
    · exact ⟨n, h1, by rw [List.length_append]; omega, by rw [List.take_append_of_le_length h2]; exact h3⟩
    · obtain ⟨i, hi, hf⟩ := (pendB_iff hP).1 h
      have hg := hf.ge
      rw [List.length_drop] at hg
      exact ⟨(X ++ [c]).length, by omega, Nat.le_refl _, by rw [List.take_length]; exact h⟩

end Go.Proofs.YtfipbnognjepkaaDoor
