/- Slices of slices of numbers that a call made: what they read as; alike, marked, still marked. -/
import Derived.Test.YtkemdiefoohdjabGreatInts
namespace Go.Proofs.YtkemdiefoohdjabGreat
set_option linter.unusedVariables false
set_option linter.unusedSimpArgs false
open Go.RowKit

theorem infoSI : (Tryz.prog.info? 42).map (fun i => (i.zero, i.size, i.bytes)) = some (some (.slice none 0 0), 1, 24) := by kernel_rfl

theorem getD_at {α : Type} (l : List α) (d : α) {j : Nat} (h : j < l.length) : l.getD j d = l[j]'h := by rw [List.getD_eq_getElem?_getD, List.getElem?_eq_getElem h]; rfl
theorem getD_left {α : Type} (l m : List α) (d : α) {j : Nat} (h : j < l.length) : (l ++ m).getD j d = l.getD j d := by rw [List.getD_eq_getElem?_getD, List.getD_eq_getElem?_getD, List.getElem?_append_left h]
theorem getD_last {α : Type} (l : List α) (a d : α) {j : Nat} (h : j = l.length) : (l ++ [a]).getD j d = a := by subst h; rw [List.getD_eq_getElem?_getD]; simp
def totR (L : List (List Int)) : Nat := (L.map List.length).sum
theorem totR_snoc (L : List (List Int)) (j : Nat) (h : j < L.length) : totR (L.take (j + 1)) = totR (L.take j) + (L.getD j []).length := by
  unfold totR
  rw [List.take_succ_eq_append_getElem h, List.map_append, List.sum_append, getD_at _ _ h]
  simp
theorem totR_all (L : List (List Int)) : totR (L.take L.length) = totR L := by rw [List.take_length]
theorem totR_take_le (L : List (List Int)) : ∀ j, totR (L.take j) ≤ totR L := fun j => by
  unfold totR
  have h : (L.map List.length).sum = ((L.take j).map List.length).sum + ((L.drop j).map List.length).sum := by rw [← List.sum_append, ← List.map_append, List.take_append_drop]
  omega
/-- The rows, marked one behind the other. -/
def marksR (m : Int) (L : List (List Int)) : List (List Int) := (List.range L.length).map fun j => marks (m + (totR (L.take j) : Int)) (L.getD j []).length
theorem marksR_len (m : Int) (L : List (List Int)) : (marksR m L).length = L.length := by simp [marksR]
theorem marksR_get (m : Int) (L : List (List Int)) (j : Nat) (h : j < L.length) : (marksR m L).getD j [] = marks (m + (totR (L.take j) : Int)) (L.getD j []).length := by
  rw [getD_at _ _ (by rw [marksR_len]; exact h)]
  simp [marksR]

/-- Row by row, in blocks that ascend. -/
def RowsIn (w : World) (B : Nat) (us : List Value) (L : List (List Int)) : Prop :=
  us.length = L.length ∧ (∀ j, j < us.length → OwnI w B (us.getD j undef) (L.getD j [])) ∧
  ∀ i j a b, i < j → j < us.length → (us.getD i undef).ownBlock = some a → (us.getD j undef).ownBlock = some b → a < b
def OwnR (w : World) (B : Nat) (v : Value) (L : List (List Int)) : Prop := ∃ us, w.ownsRow B 42 1 v us.length us ∧ RowsIn w B us L
theorem RowsIn.below {w w' : World} {B : Nat} {us : List Value} {L : List (List Int)} (h : RowsIn w B us L) (b : Below w.heap.size w w') : RowsIn w' B us L := ⟨h.1, fun j hj => (h.2.1 j hj).below b, h.2.2⟩
theorem OwnR.below {w w' : World} {B : Nat} {v : Value} {L : List (List Int)} (h : OwnR w B v L) (b : Below w.heap.size w w') : OwnR w' B v L := by
  obtain ⟨us, h1, h2⟩ := h
  exact ⟨us, own_below h1 b, h2.below b⟩
theorem OwnR.base {w : World} {B B' : Nat} {v : Value} {L : List (List Int)} (h : OwnR w B v L) (hb : B' ≤ B) : OwnR w B' v L := by
  obtain ⟨us, h1, h2, h3, h4⟩ := h
  exact ⟨us, own_base h1 hb, h2, fun j hj => (h3 j hj).base hb, h4⟩
theorem RowsIn.nil (w : World) (B : Nat) : RowsIn w B [] [] := ⟨rfl, fun j hj => by simp at hj, fun i j a b _ hj => by simp at hj⟩
theorem OwnR.nil (w : World) (B : Nat) : OwnR w B (.slice none 0 0) [] := ⟨[], World.ownsRow_nil _ _ _ _, RowsIn.nil _ _⟩
theorem OwnR.lit0 (w : World) {B : Nat} (h : B ≤ w.heap.size) : OwnR (w.alloc (.cells #[] 42)) B (.slice (some ⟨w.heap.size, 0, none⟩) 0 0) [] :=
  ⟨[], own_base (World.ownsRow_lit w #[] 0 (Nat.le_refl _) (by decide) (by simp)) h, RowsIn.nil _ _⟩
/-- Rows of different kinds lie in different blocks. -/
theorem own_apart {w : World} {B B' : Nat} {e e' : TypeId} {v v' : Value} {n n' : Nat} {xs xs' : List Value} (h : w.ownsRow B e 1 v n xs) (h' : w.ownsRow B' e' 1 v' n' xs') (he : e ≠ e') {k : Nat} (hk : v.ownBlock = some k) : v'.ownBlock ≠ some k := by
  obtain ⟨_, ⟨rfl, _⟩ | ⟨g, cap, cur, rfl, _, hh, _⟩⟩ := h
  · cases hk
  obtain ⟨_, ⟨rfl, _⟩ | ⟨g', cap', cur', rfl, _, hh', _⟩⟩ := h'
  · intro c; cases c
  intro c
  have e1 : g = k := Option.some.inj hk
  have e2 : g' = k := Option.some.inj c
  subst e1
  subst e2
  rw [hh] at hh'
  have := Option.some.inj hh'
  simp only [Obj.cells.injEq] at this
  exact he this.2.1
theorem own_other {w w' : World} {B : Nat} {e : TypeId} {v : Value} {n : Nat} {xs : List Value} {row : Option Nat} (h : w.ownsRow B e 1 v n xs) (hg : w.grownBy w' row) (hne : ∀ k, v.ownBlock = some k → row ≠ some k) : w'.ownsRow B e 1 v n xs := by
  refine World.ownsRow.kept h hg ?_
  cases hv : v.ownBlock with
  | none => exact .inl rfl
  | some k => exact .inr (fun c => hne k hv c.symm)
/-- All rows stay while another block is written. -/
theorem RowsIn.other {w w' : World} {B : Nat} {us : List Value} {L : List (List Int)} {row : Option Nat} (h : RowsIn w B us L) (hg : w.grownBy w' row) (hne : ∀ j, j < us.length → ∀ k, (us.getD j undef).ownBlock = some k → row ≠ some k) : RowsIn w' B us L :=
  ⟨h.1, fun j hj => own_other (h.2.1 j hj) hg (hne j hj), h.2.2⟩
theorem RowsIn.lt {w : World} {B : Nat} {us : List Value} {L : List (List Int)} (h : RowsIn w B us L) (j : Nat) (hj : j < us.length) : ∀ k, (us.getD j undef).ownBlock = some k → B ≤ k ∧ k < w.heap.size := (h.2.1 j hj).lt
/-- One row more, in a new block. -/
theorem RowsIn.snoc {w : World} {B : Nat} {us : List Value} {L : List (List Int)} {u : Value} {R : List Int} {b : Nat} (h : RowsIn w B us L) (hu : OwnI w B u R) (hb : ∀ j, j < us.length → ∀ k, (us.getD j undef).ownBlock = some k → k < b) (hub : ∀ k, u.ownBlock = some k → b ≤ k) : RowsIn w B (us ++ [u]) (L ++ [R]) := by
  have hl := h.1
  refine ⟨by simp [hl], fun j hj => ?_, fun i j a c hij hj ha hc => ?_⟩
  · by_cases e : j < us.length
    · rw [getD_left _ _ _ e, getD_left _ _ _ (by omega)]
      exact h.2.1 j e
    · have e2 : j = us.length := by simp at hj; omega
      rw [getD_last _ _ _ e2, getD_last _ _ _ (by omega)]
      exact hu
  · by_cases e : j < us.length
    · rw [getD_left _ _ _ e] at hc
      rw [getD_left _ _ _ (by omega)] at ha
      exact h.2.2 i j a c hij e ha hc
    · have e2 : j = us.length := by simp at hj; omega
      rw [getD_left _ _ _ (by omega)] at ha
      rw [getD_last _ _ _ e2] at hc
      have h1 := hb i (by omega) a ha
      have h2 := hub c hc
      omega
theorem OwnR.empty {w : World} {B : Nat} {v : Value} (h : OwnR w B v []) : ∃ a c, v = .slice a 0 c := by
  obtain ⟨us, h1, h2⟩ := h
  have : us = [] := List.eq_nil_of_length_eq_zero h2.1
  subst this
  rcases own_forms h1 with ⟨rfl, _, _⟩ | ⟨g, cap, rfl, _⟩
  · exact ⟨_, _, rfl⟩
  · exact ⟨_, _, rfl⟩
theorem OwnR.row {w : World} {B : Nat} {v : Value} {L : List (List Int)} (h : OwnR w B v L) (hn : 0 < L.length) :
    ∃ g cap us, v = .slice (some ⟨g, 0, none⟩) L.length cap ∧ B ≤ g ∧ g < w.heap.size ∧ L.length ≤ cap ∧ L.length ≤ maxLen ∧ (∀ j, j < L.length → w.cell? ⟨g, j, none⟩ = some (us.getD j undef)) ∧ RowsIn w B us L ∧ w.ownsRow B 42 1 v us.length us := by
  obtain ⟨us, h1, h2⟩ := h
  have hl := h2.1
  rcases own_forms h1 with ⟨_, h0, _⟩ | ⟨g, cap, hv, k1, k2, k3, k4, k5, k6⟩
  · omega
  · refine ⟨g, cap, us, by rw [hv, hl], k1, k2, by omega, by omega, fun j hj => ?_, h2, h1⟩
    rw [k5 j (by omega), getD_at _ _ (by omega)]
    exact List.getElem?_eq_getElem (by omega)
theorem OwnR.value {w : World} {B : Nat} {v : Value} {L : List (List Int)} (h : OwnR w B v L) : ∃ a c, v = .slice a L.length c := by
  obtain ⟨us, h1, h2⟩ := h
  have hl := h2.1
  rcases own_forms h1 with ⟨rfl, h0, _⟩ | ⟨g, cap, hv, _⟩
  · exact ⟨none, 0, by rw [← hl, h0]⟩
  · exact ⟨_, cap, by rw [hv, hl]⟩
/-- What a function that hands back a slice of slices and a code comes to. -/
def RetR (L : List (List Int)) (c : Int) (w : World) (e : Ending) (w' : World) : Prop := ∃ v, e = .returned (.tuple #[v, .int .i64 c]) ∧ OwnR w' w.heap.size v L ∧ Below w.heap.size w w'

end Go.Proofs.YtkemdiefoohdjabGreat
