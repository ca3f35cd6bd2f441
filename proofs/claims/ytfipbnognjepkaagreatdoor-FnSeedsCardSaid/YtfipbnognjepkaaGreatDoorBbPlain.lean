/- Plain facts: the best border among the borders told. -/
import Derived.Test.YtfipbnognjepkaaGreatDoorSeedPlain
import Derived.Test.YtfipbnognjepkaaGreatDoorPerRPlain
namespace Go.Proofs.YtfipbnognjepkaaGreatDoor
set_option linter.unusedVariables false
set_option linter.unusedSimpArgs false
open Go.RowKit

/-- The best among the border words told. -/
def bsF (x : ByteArray) (L : List Int) : Nat × Nat := L.foldl (fun a z => if a.2 < cvN x (x.extract 0 z.toNat) then (z.toNat, cvN x (x.extract 0 z.toNat)) else a) (0, 0)
theorem bsF_hit {x : ByteArray} {L : List Int} {z : Int} (h : (bsF x L).2 < cvN x (x.extract 0 z.toNat)) : bsF x (L ++ [z]) = (z.toNat, cvN x (x.extract 0 z.toNat)) := by
  unfold bsF at h ⊢
  rw [List.foldl_append, List.foldl_cons, List.foldl_nil, if_pos h]
theorem bsF_miss {x : ByteArray} {L : List Int} {z : Int} (h : ¬ (bsF x L).2 < cvN x (x.extract 0 z.toNat)) : bsF x (L ++ [z]) = bsF x L := by
  unfold bsF at h ⊢
  rw [List.foldl_append, List.foldl_cons, List.foldl_nil, if_neg h]
theorem cvN_nil (x : ByteArray) : cvN x (x.extract 0 0) = 0 := by
  unfold cvN
  have h : ∀ j, cvB x (x.extract 0 0) j = false := fun j => by
    rw [Bool.eq_false_iff]
    intro e
    unfold cvB at e
    rw [List.any_eq_true] at e
    obtain ⟨i, _, e⟩ := e
    unfold cvAt at e
    simp only [Bool.and_eq_true, decide_eq_true_eq] at e
    have hs : (x.extract 0 0).size = 0 := by rw [ByteArray.size_extract]; omega
    omega
  have : ∀ n, cnB (cvB x (x.extract 0 0)) n = 0 := fun n => by
    induction n with
    | zero => rfl
    | succ n ih => rw [cnB, ih, h]; rfl
  exact this _
theorem bdT_per {x : ByteArray} {m : Nat} (h : m ≤ x.size) : bdT x m = perT (bl x) (x.size - m) := by
  unfold bdT
  have := per_text x (x.size - m) (by omega)
  rw [show x.size - (x.size - m) = m by omega] at this
  rw [Bool.eq_iff_iff, decide_eq_true_eq, ← this]
  exact ⟨fun e => e.symm, fun e => e.symm⟩
theorem bsF_bords (x : ByteArray) : ∀ n, n + 1 ≤ x.size → bsF x (bordsR (bl x) (n + 1)) = bbF x n
  | 0, hn => by
    have h0 : ∀ t, bsF x (bordsR (bl x) 0 ++ t) = bsF x t := fun t => by rw [bordsR_zero]; rfl
    have e : bsF x [0] = (0, 0) := by
      have := bsF_miss (x := x) (L := []) (z := 0) (by rw [show (0 : Int).toNat = 0 from rfl, cvN_nil]; exact Nat.not_lt_zero _)
      exact this
    cases hp : perT (bl x) ((bl x).length - 0) with
    | true => rw [bordsR_hit _ _ hp, h0]; exact e
    | false => rw [bordsR_miss _ _ hp]; rfl
  | n + 1, hn => by
    have ih := bsF_bords x n (by omega)
    have hb := bdT_per (x := x) (m := n + 1) (by omega)
    cases hp : perT (bl x) ((bl x).length - (n + 1)) with
    | true =>
      rw [bl_len] at hp
      rw [hp] at hb
      rw [bordsR_hit _ _ (by rw [bl_len]; exact hp)]
      by_cases hl : (bbF x n).2 < cvN x (x.extract 0 (n + 1))
      · rw [bbF_hit hb hl, bsF_hit (by rw [ih]; exact hl)]
        rfl
      · rw [bbF_low hl, bsF_miss (by rw [ih]; exact hl), ih]
    | false =>
      rw [bl_len] at hp
      rw [hp] at hb
      rw [bordsR_miss _ _ (by rw [bl_len]; exact hp), ih, bbF_miss hb]
theorem bsF_all {x : ByteArray} : bsF x (bordsR (bl x) x.size) = bbF x (x.size - 1) := by
  by_cases h : x.size = 0
  · rw [h]; rfl
  · have := bsF_bords x (x.size - 1) (by omega)
    rwa [show x.size - 1 + 1 = x.size by omega] at this
theorem bsF_le {x : ByteArray} (L : List Int) : (bsF x L).2 ≤ x.size := by
  unfold bsF
  have : ∀ (L : List Int) (a : Nat × Nat), a.2 ≤ x.size → (L.foldl (fun a z => if a.2 < cvN x (x.extract 0 z.toNat) then (z.toNat, cvN x (x.extract 0 z.toNat)) else a) a).2 ≤ x.size := by
    intro L
    induction L with
    | nil => intro a h; exact h
    | cons z t ih =>
      intro a h
      rw [List.foldl_cons]
      apply ih
      split
      · exact cvN_le _ _
      · exact h
  exact this L (0, 0) (Nat.zero_le _)

end Go.Proofs.YtfipbnognjepkaaGreatDoor
