/- Plain facts: composed morphisms. -/
import Derived.Test.YtjneebhbgogppaaMorPlain
namespace Go.Proofs.Ytjneebhbgogppaa
set_option linter.unusedVariables false
set_option linter.unusedSimpArgs false
open Go.RowKit

def compL (H G : List (List UInt8)) : List (List UInt8) := G.map (imgOf H)
def CompTo (H G : List (List UInt8)) (k : Nat) : Prop := ∀ j (h : j < G.length), j < k → (imgOf H (G[j]'h)).length ≤ 12
theorem CompTo.zero (H G : List (List UInt8)) : CompTo H G 0 := fun _ _ h => by omega
theorem CompTo.succ {H G : List (List UInt8)} {k : Nat} (h : CompTo H G k) (hk : k < G.length) (h1 : (imgOf H (G[k]'hk)).length ≤ 12) : CompTo H G (k + 1) := by
  intro j hj hjk
  by_cases e : j = k
  · subst e; exact h1
  · exact h j hj (by omega)
instance (H G : List (List UInt8)) (k : Nat) : Decidable (CompTo H G k) := by unfold CompTo; exact inferInstance
def compR (H G : List (List UInt8)) : List (List UInt8) × Int := if ¬ (Mor H ∧ Mor G) then ([], 1) else if H.length ≠ G.length then ([], 2) else if ¬ CompTo H G G.length then ([], 3) else (compL H G, 0)
theorem compR_bad {H G : List (List UInt8)} (h : ¬ (Mor H ∧ Mor G)) : compR H G = ([], 1) := if_pos h
theorem compR_out {H G : List (List UInt8)} (h : Mor H ∧ Mor G) (hl : H.length ≠ G.length) : compR H G = ([], 2) := by unfold compR; rw [if_neg (not_not_intro h), if_pos hl]
theorem compR_long {H G : List (List UInt8)} (h : Mor H ∧ Mor G) (hl : H.length = G.length) {k : Nat} (hk : k < G.length) (hx : ¬ (imgOf H (G[k]'hk)).length ≤ 12) : compR H G = ([], 3) := by
  unfold compR; rw [if_neg (not_not_intro h), if_neg (not_not_intro hl), if_pos (fun c => hx (c k hk hk))]
theorem compR_ok {H G : List (List UInt8)} (h : Mor H ∧ Mor G) (hl : H.length = G.length) (c : CompTo H G G.length) : compR H G = (compL H G, 0) := by
  unfold compR; rw [if_neg (not_not_intro h), if_neg (not_not_intro hl), if_neg (not_not_intro c)]
theorem compR_len (H G : List (List UInt8)) : (compR H G).1.length ≤ 4096 := by
  unfold compR
  split
  · simp
  · rename_i h
    split
    · simp
    · split
      · simp
      · have := (Classical.not_not.1 h).2.len5
        simp [compL]; omega
theorem comp_snoc (H G : List (List UInt8)) (k : Nat) (h : k < G.length) : (compL H (G.take k)).map bt ++ [bt (imgOf H (G[k]'h))] = (compL H (G.take (k + 1))).map bt := by
  unfold compL
  rw [List.take_succ_eq_append_getElem h, List.map_append, List.map_append]
  rfl
theorem lets_len {H G : List (List UInt8)} (e : H.length = G.length) {l : List UInt8} (h : lets G l) : lets H l := fun c hc => by have := h c hc; omega
end Go.Proofs.Ytjneebhbgogppaa
