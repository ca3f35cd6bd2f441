/- Plain facts: powers, overlaps and squares of a list of letters; the square that ends first. -/
import Derived.Test.YtfipbnognjepkaaGreatDoorPerPlain
namespace Go.Proofs.YtfipbnognjepkaaGreatDoor
set_option linter.unusedVariables false
set_option linter.unusedSimpArgs false

/-- The e letters from i on are those q places behind. -/
def RepT (l : List UInt8) (i q e : Nat) : Prop := i + q + e ≤ l.length ∧ ∀ d, d < e → l[i + d]? = l[i + d + q]?
def repB (l : List UInt8) (i q e : Nat) : Bool := decide (i + q + e ≤ l.length) && (List.range e).all fun d => decide (l[i + d]? = l[i + d + q]?)
theorem repB_iff {l : List UInt8} {i q e : Nat} : repB l i q e = true ↔ RepT l i q e := by
  unfold repB RepT
  rw [Bool.and_eq_true, decide_eq_true_iff, List.all_eq_true]
  exact ⟨fun h => ⟨h.1, fun d hd => of_decide_eq_true (h.2 d (List.mem_range.2 hd))⟩, fun h => ⟨h.1, fun d hd => decide_eq_true (h.2 d (List.mem_range.1 hd))⟩⟩
theorem repB_no {l : List UInt8} {i q e : Nat} : repB l i q e = false ↔ ¬ RepT l i q e := by
  rw [Bool.eq_false_iff, ne_eq, repB_iff]
/-- What a test has seen so far. -/
def RepUp (l : List UInt8) (i q j : Nat) : Prop := ∀ d, d < j → l[i + d]? = l[i + d + q]?
theorem RepUp.start (l : List UInt8) (i q : Nat) : RepUp l i q 0 := fun d h => by omega
theorem RepUp.succ {l : List UInt8} {i q j : Nat} (h : RepUp l i q j) (k : l[i + j]? = l[i + j + q]?) : RepUp l i q (j + 1) := fun d hd => by
  by_cases e : d = j
  · subst e; exact k
  · exact h d (by omega)
theorem RepUp.done {l : List UInt8} {i q e : Nat} (h : RepUp l i q e) (hl : i + q + e ≤ l.length) : repB l i q e = true := repB_iff.2 ⟨hl, h⟩
theorem rep_miss {l : List UInt8} {i q e j : Nat} (h : j < e) (k : ¬ l[i + j]? = l[i + j + q]?) : repB l i q e = false := repB_no.2 fun c => k (c.2 j h)
theorem rep_long {l : List UInt8} {i q e : Nat} (h : ¬ i + q + e ≤ l.length) : repB l i q e = false := repB_no.2 fun c => h c.1
theorem rep_take {l : List UInt8} {n i q e : Nat} (hn : n ≤ l.length) (h : i + q + e ≤ n) : repB (l.take n) i q e = repB l i q e := by
  rw [Bool.eq_iff_iff, repB_iff, repB_iff]
  have hl : (l.take n).length = n := by rw [List.length_take]; omega
  have key : ∀ d, d < e → (l.take n)[i + d]? = l[i + d]? ∧ (l.take n)[i + d + q]? = l[i + d + q]? := fun d hd => ⟨List.getElem?_take_of_lt (by omega), List.getElem?_take_of_lt (by omega)⟩
  exact ⟨fun c => ⟨by omega, fun d hd => by rw [← (key d hd).1, ← (key d hd).2]; exact c.2 d hd⟩, fun c => ⟨by omega, fun d hd => by rw [(key d hd).1, (key d hd).2]; exact c.2 d hd⟩⟩

/-- The root length of the shortest square that ends ahead of place e, 0 if there is none. -/
def saF (l : List UInt8) (e : Nat) : Nat → Nat → Nat
  | _, 0 => 0
  | q, f + 1 => if repB l (e - 2 * q) q q = true then q else saF l e (q + 1) f
theorem saF_hit {l : List UInt8} {e q f : Nat} (h : repB l (e - 2 * q) q q = true) : saF l e q (f + 1) = q := by rw [saF, if_pos h]
theorem saF_miss {l : List UInt8} {e q f : Nat} (h : repB l (e - 2 * q) q q = false) : saF l e q (f + 1) = saF l e (q + 1) f := by rw [saF, if_neg (by rw [h]; decide)]
def sa (l : List UInt8) (e : Nat) : Nat := saF l e 1 (e / 2)
theorem saF_some {l : List UInt8} {e : Nat} : ∀ (f q : Nat), saF l e q f ≠ 0 → q ≤ saF l e q f ∧ saF l e q f < q + f ∧ repB l (e - 2 * saF l e q f) (saF l e q f) (saF l e q f) = true ∧ ∀ r, q ≤ r → r < saF l e q f → repB l (e - 2 * r) r r = false
  | 0, q, h => absurd rfl h
  | f + 1, q, h => by
    by_cases c : repB l (e - 2 * q) q q = true
    · rw [saF_hit c]
      exact ⟨Nat.le_refl _, by omega, c, fun r h1 h2 => by omega⟩
    · have c2 : repB l (e - 2 * q) q q = false := by simpa using c
      rw [saF_miss c2] at h ⊢
      obtain ⟨h1, h2, h3, h4⟩ := saF_some f (q + 1) h
      refine ⟨by omega, by omega, h3, fun r h5 h6 => ?_⟩
      by_cases er : r = q
      · subst er; exact c2
      · exact h4 r (by omega) h6
theorem saF_none {l : List UInt8} {e : Nat} : ∀ (f q : Nat), 0 < q → saF l e q f = 0 → ∀ r, q ≤ r → r < q + f → repB l (e - 2 * r) r r = false
  | 0, q, _, h, r, h1, h2 => by omega
  | f + 1, q, h0, h, r, h1, h2 => by
    by_cases c : repB l (e - 2 * q) q q = true
    · rw [saF_hit c] at h; omega
    · have c2 : repB l (e - 2 * q) q q = false := by simpa using c
      rw [saF_miss c2] at h
      by_cases er : r = q
      · subst er; exact c2
      · exact saF_none f (q + 1) (by omega) h r (by omega) (by omega)
theorem sa_some {l : List UInt8} {e : Nat} (h : sa l e ≠ 0) : 0 < sa l e ∧ 2 * sa l e ≤ e ∧ RepT l (e - 2 * sa l e) (sa l e) (sa l e) := by
  obtain ⟨h1, h2, h3, _⟩ := saF_some _ _ h
  have h1' : 1 ≤ sa l e := h1
  have h2' : sa l e < 1 + e / 2 := h2
  exact ⟨h1', by omega, repB_iff.1 h3⟩
theorem sa_none {l : List UInt8} {e : Nat} (h : sa l e = 0) (q : Nat) (h0 : 0 < q) (hq : 2 * q ≤ e) : ¬ RepT l (e - 2 * q) q q := repB_no.1 (saF_none _ _ (by omega) h q h0 (by omega))
theorem saF_congr {l m : List UInt8} {e : Nat} : ∀ (f q : Nat), (∀ r, q ≤ r → r < q + f → repB l (e - 2 * r) r r = repB m (e - 2 * r) r r) → saF l e q f = saF m e q f
  | 0, q, _ => rfl
  | f + 1, q, h => by
    have h1 := h q (Nat.le_refl _) (by omega)
    have h2 := saF_congr f (q + 1) fun r a b => h r (by omega) (by omega)
    rw [saF, saF, h1, h2]
theorem sa_take {l : List UInt8} {n : Nat} (hn : n ≤ l.length) : sa (l.take n) n = sa l n := saF_congr _ _ fun r a b => rep_take hn (by omega)
theorem sa_append {l m : List UInt8} {n : Nat} (hn : n ≤ l.length) : sa (l ++ m) n = sa l n := by
  rw [← sa_take (l := l ++ m) (n := n) (by rw [List.length_append]; omega), List.take_append_of_le_length hn, sa_take hn]
theorem sa_low {l : List UInt8} {e : Nat} (h : e < 2) : sa l e = 0 := by
  unfold sa
  rw [show e / 2 = 0 by omega]
  rfl

/-- The place and the root length of the square that ends first, at e or behind it. -/
def fsF (l : List UInt8) : Nat → Nat → Nat × Nat
  | _, 0 => (0, 0)
  | e, f + 1 => if sa l e = 0 then fsF l (e + 1) f else (e - 2 * sa l e, sa l e)
theorem fsF_miss {l : List UInt8} {e f : Nat} (h : sa l e = 0) : fsF l e (f + 1) = fsF l (e + 1) f := by rw [fsF, if_pos h]
theorem fsF_hit {l : List UInt8} {e f : Nat} (h : sa l e ≠ 0) : fsF l e (f + 1) = (e - 2 * sa l e, sa l e) := by rw [fsF, if_neg h]
def fs (l : List UInt8) : Nat × Nat := fsF l 0 (l.length + 1)
theorem fs_two (l : List UInt8) : fs l = fsF l 2 (l.length + 1 - 2) := by
  unfold fs
  rw [fsF_miss (sa_low (by omega))]
  cases l with
  | nil => rfl
  | cons c t => rw [List.length_cons, fsF_miss (sa_low (by omega))]; rfl
/-- No square ends at a place from e on, of so many. -/
theorem fsF_free {l : List UInt8} : ∀ (f e : Nat), (fsF l e f).2 = 0 ↔ ∀ k, e ≤ k → k < e + f → sa l k = 0
  | 0, e => ⟨fun _ k h1 h2 => by omega, fun _ => rfl⟩
  | f + 1, e => by
    by_cases c : sa l e = 0
    · rw [fsF_miss c, fsF_free f (e + 1)]
      refine ⟨fun h k h1 h2 => ?_, fun h k h1 h2 => h k (by omega) (by omega)⟩
      by_cases ek : k = e
      · subst ek; exact c
      · exact h k (by omega) (by omega)
    · rw [fsF_hit c]
      exact ⟨fun h => absurd h c, fun h => absurd (h e (Nat.le_refl _) (by omega)) c⟩
theorem fsF_free_fst {l : List UInt8} : ∀ (f e : Nat), (fsF l e f).2 = 0 → fsF l e f = (0, 0)
  | 0, e, _ => rfl
  | f + 1, e, h => by
    by_cases c : sa l e = 0
    · rw [fsF_miss c] at h ⊢
      exact fsF_free_fst f (e + 1) h
    · rw [fsF_hit c] at h
      exact absurd h c
theorem fs_free (l : List UInt8) : (fs l).2 = 0 ↔ ∀ k, k ≤ l.length → sa l k = 0 := by
  unfold fs
  rw [fsF_free]
  exact ⟨fun h k hk => h k (by omega) (by omega), fun h k _ hk => h k (by omega)⟩
theorem fs_zero {l : List UInt8} (h : (fs l).2 = 0) : fs l = (0, 0) := fsF_free_fst _ _ h
/-- One letter more: a square can be at the end alone. -/
theorem fs_snoc (l : List UInt8) (c : UInt8) : (fs (l ++ [c])).2 = 0 ↔ (fs l).2 = 0 ∧ sa (l ++ [c]) (l.length + 1) = 0 := by
  rw [fs_free, fs_free]
  have hl : (l ++ [c]).length = l.length + 1 := by simp
  rw [hl]
  constructor
  · intro h
    exact ⟨fun k hk => by rw [← sa_append (m := [c]) hk]; exact h k (by omega), h _ (Nat.le_refl _)⟩
  · intro h k hk
    by_cases e : k = l.length + 1
    · subst e; exact h.2
    · rw [sa_append (by omega)]; exact h.1 k (by omega)
/-- Square free: no square at any place. -/
theorem fs_iff (l : List UInt8) : (fs l).2 = 0 ↔ ∀ i q, 0 < q → ¬ RepT l i q q := by
  rw [fs_free]
  constructor
  · intro h i q h0 hr
    have h1 := hr.1
    have := sa_none (h (i + 2 * q) (by omega)) q h0 (by omega)
    rw [show i + 2 * q - 2 * q = i by omega] at this
    exact this hr
  · intro h k hk
    refine Nat.eq_zero_of_not_pos fun hp => ?_
    obtain ⟨h1, h2, h3⟩ := sa_some (l := l) (e := k) (by omega)
    exact h _ _ h1 h3

/-! ### What the functions answer. -/
def fsqR (x : ByteArray) : Int × Int × Int := if ¬ IsW x then (0, 0, 1) else if (fs (bl x)).2 = 0 then (0, 0, 4) else (((fs (bl x)).1 : Int), ((fs (bl x)).2 : Int), 0)
theorem fsqR_bad {x : ByteArray} (h : ¬ IsW x) : fsqR x = (0, 0, 1) := if_pos h
theorem fsqR_none {x : ByteArray} (h : IsW x) (h0 : (fs (bl x)).2 = 0) : fsqR x = (0, 0, 4) := by unfold fsqR; rw [if_neg (not_not_intro h), if_pos h0]
theorem fsqR_ok {x : ByteArray} (h : IsW x) (h0 : ¬ (fs (bl x)).2 = 0) : fsqR x = (((fs (bl x)).1 : Int), ((fs (bl x)).2 : Int), 0) := by unfold fsqR; rw [if_neg (not_not_intro h), if_neg h0]
def isfR (x : ByteArray) : Bool × Int := if ¬ IsW x then (false, 1) else (decide ((fs (bl x)).2 = 0), 0)
theorem isfR_bad {x : ByteArray} (h : ¬ IsW x) : isfR x = (false, 1) := if_pos h
theorem isfR_ok {x : ByteArray} (h : IsW x) : isfR x = (decide ((fs (bl x)).2 = 0), 0) := by unfold isfR; rw [if_neg (not_not_intro h)]

/-! ### Texts. -/
theorem rep_text (x : ByteArray) (q n : Nat) (hn : n = x.size) (h : 2 * q ≤ n) : x.extract (n - 2 * q) (n - q) = x.extract (n - q) n ↔ repB (bl x) (n - 2 * q) q q = true := by
  subst hn
  rw [bl_eq, bl_drop, bl_extract, repB_iff]
  have hl := bl_len x
  constructor
  · intro he
    refine ⟨by omega, fun d hd => ?_⟩
    have h1 : (((bl x).drop (x.size - 2 * q)).take (x.size - q - (x.size - 2 * q)))[d]? = ((bl x).drop (x.size - q))[d]? := by rw [he]
    rw [List.getElem?_take_of_lt (by omega), List.getElem?_drop, List.getElem?_drop] at h1
    rw [h1]
    congr 1
    omega
  · intro hr
    apply List.ext_getElem?
    intro d
    by_cases hd : d < q
    · rw [List.getElem?_take_of_lt (by omega), List.getElem?_drop, List.getElem?_drop, hr.2 d hd]
      congr 1
      omega
    · rw [List.getElem?_eq_none (by rw [List.length_take, List.length_drop]; omega), List.getElem?_eq_none (by rw [List.length_drop]; omega)]

end Go.Proofs.YtfipbnognjepkaaGreatDoor
