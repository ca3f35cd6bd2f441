/- MatrixOf: what it answers; the model. -/
import Derived.Test.YtddfdciohnabbabMatS
import Derived.Test.YtddfdciohnabbabMorC
namespace Go.Proofs.Ytddfdciohnabbab
set_option linter.unusedVariables false
set_option linter.unusedSimpArgs false
open Go.RowKit

noncomputable def matR (I : List (List UInt8)) : List (List Int) × Int := if Mor I then (matK I I.length, 0) else ([], 1)
theorem matR_len (I : List (List UInt8)) : (matR I).1.length ≤ 5 := by
  unfold matR
  by_cases g : Mor I
  · rw [if_pos g]
    have := g.len5
    simp [matK_len, this]
  · rw [if_neg g]
    simp
theorem totR_le {n : Nat} : ∀ (L : List (List Int)), (∀ l ∈ L, l.length ≤ n) → totR L ≤ n * L.length
  | [], _ => by simp [totR]
  | l :: L, h => by
    have h1 := totR_le L fun l' hl => h l' (List.mem_cons_of_mem _ hl)
    have h2 := h l List.mem_cons_self
    unfold totR at h1 ⊢
    simp only [List.map_cons, List.sum_cons, List.length_cons, Nat.mul_succ]
    omega
theorem matR_tot (I : List (List UInt8)) : totR (matR I).1 ≤ 25 := by
  unfold matR
  by_cases g : Mor I
  · rw [if_pos g]
    have h5 := g.len5
    have := totR_le (n := 5) (matK I I.length) fun l hl => by
      obtain ⟨r, _, rfl⟩ := List.mem_map.1 hl
      rw [fm_len]
      exact h5
    rw [matK_len] at this
    show totR (matK I I.length) ≤ 25
    omega
  · rw [if_neg g]
    simp [totR]

set_option maxRecDepth 100000 in
set_option maxHeartbeats 1000000 in
theorem spec_MatrixOf (B : Nat) (v : Value) (I : List (List UInt8)) (w : World) (h : OwnS w B v (I.map bt)) (t : Tot I) :
    Calls Try.prog 62 #[.agg #[v]] w (RetR (matR I).1 (matR I).2 w) := by
  obtain ⟨p, c, hv⟩ := ownS_value h
  rw [List.length_map] at hv
  subst hv
  have BN : Below w.heap.size w (w.alloc (.cells #[.slice p I.length c] 57)) := Below.new _ _
  have QN : Boxed (w.alloc (.cells #[.slice p I.length c] 57)) w.heap.size 57 (.slice p I.length c) := Boxed.new _ _ _
  have HBN := Lib.hid BN
  have HQN := Lib.hid QN
  have H := Lib.hid (h.below BN)
  have c1 := fun W h => l06Is_any B (.slice p I.length c) I W h t
  clear BN QN h
  by_cases g : Mor I
  · simp only [g, decide_true] at c1
    have c2 := fun W h => l06Matrix_any B (.slice p I.length c) I W h g
    rw [show matR I = (matK I I.length, 0) from if_pos g]
    have C1 := Lib.hid c1
    have C2 := Lib.hid c2
    clear c1 c2 g t
    go_enter Try.func62, Try.ntmps62
    go_wp2_with fail
    refine (C1.out _ H.out).mono ?_
    rintro e w1 ⟨rfl, b1⟩
    have q1 := boxed_later HQN.out b1
    have kq := q1.cell
    have B1 := HBN.out.then b1
    go_wp2_with fail
    refine (C2.out _ (H.out.below b1)).mono ?_
    rintro e w2 ⟨u, rfl, ou, b2⟩
    have hs := B1.size
    go_wp2_with fail
    go_ret2
    exact ⟨_, rfl, ou.base hs, B1.then b2⟩
  · simp only [g, decide_false] at c1
    rw [show matR I = ([], 1) from if_neg g]
    have C1 := Lib.hid c1
    clear c1 g t
    go_enter Try.func62, Try.ntmps62
    go_wp2_with fail
    refine (C1.out _ H.out).mono ?_
    rintro e w1 ⟨rfl, b1⟩
    have B1 := HBN.out.then b1
    go_wp2_with fail
    go_ret2
    exact ⟨_, rfl, OwnR.nil _ _, B1⟩
end Go.Proofs.Ytddfdciohnabbab
