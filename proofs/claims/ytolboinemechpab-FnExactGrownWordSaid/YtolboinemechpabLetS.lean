/- Is a number the number of a letter of a morphism: the model. -/
import Derived.Test.YtolboinemechpabImgS
import Derived.Test.YtolboinemechpabLib
namespace Go.Proofs.Ytolboinemechpab
set_option linter.unusedVariables false
set_option linter.unusedSimpArgs false
open Go.RowKit

noncomputable def letC (I : List (List UInt8)) (q : Int) : Int := if ¬ Mor I then 1 else if q < 0 ∨ (I.length : Int) ≤ q then 2 else 0

set_option maxRecDepth 100000 in
set_option maxHeartbeats 1000000 in
theorem l06Letter_any (B : Nat) (v : Value) (I : List (List UInt8)) (q : Int) (w : World) (h : OwnS w B v (I.map bt)) (t : Tot I) (wq : (Lit.int .i64 q).wf = true) :
    Calls Try.prog 88 #[.agg #[v], .int .i64 q] w fun e w' => e = .returned (.int .i64 (letC I q)) ∧ Below w.heap.size w w' := by
  obtain ⟨p, c, hv⟩ := ownS_value h
  rw [List.length_map] at hv
  subst hv
  have hI := t.1
  have BN : Below w.heap.size w (w.alloc (.cells #[.slice p I.length c] 53)) := Below.new _ _
  have QN : Boxed (w.alloc (.cells #[.slice p I.length c] 53)) w.heap.size 53 (.slice p I.length c) := Boxed.new _ _ _
  have HBN := Lib.hid BN
  have HQN := Lib.hid QN
  have H := Lib.hid (h.below BN)
  have c1 := fun W h => l06Is_any B (.slice p I.length c) I W h t
  clear BN QN h
  by_cases g : Mor I
  · simp only [g, decide_true] at c1
    have hwr : IntKind.i64.wrap ((I.length : Int) - 1) = (I.length : Int) - 1 := IntWalk.i64_in _ (by omega)
    by_cases hb : 0 ≤ q ∧ q ≤ (I.length : Int) - 1
    · have c2 := fun W => l01In_yesM q 0 ((I.length : Int) - 1) W hb.1 hb.2
      have hc : letC I q = 0 := by unfold letC; rw [if_neg (not_not_intro g), if_neg (by omega)]
      rw [hc]
      have C1 := Lib.hid c1
      have C2 := Lib.hid c2
      clear c1 c2 hc g hb
      go_enter Try.func88, Try.ntmps88
      go_wp2_with fail
      refine (C1.out _ H.out).mono ?_
      rintro e w1 ⟨rfl, b1⟩
      have q1 := boxed_later HQN.out b1
      have kq := q1.cell
      have B1 := HBN.out.then b1
      go_wp2_with fail
      refine (C2.out _).mono ?_
      rintro e w2 ⟨rfl, rfl⟩
      go_wp2_with fail
      go_ret
      exact ⟨rfl, B1⟩
    · have c2 := fun W => l01In_noM q 0 ((I.length : Int) - 1) W hb
      have hc : letC I q = 2 := by unfold letC; rw [if_neg (not_not_intro g), if_pos (by omega)]
      rw [hc]
      have C1 := Lib.hid c1
      have C2 := Lib.hid c2
      clear c1 c2 hc g hb
      go_enter Try.func88, Try.ntmps88
      go_wp2_with fail
      refine (C1.out _ H.out).mono ?_
      rintro e w1 ⟨rfl, b1⟩
      have q1 := boxed_later HQN.out b1
      have kq := q1.cell
      have B1 := HBN.out.then b1
      go_wp2_with fail
      refine (C2.out _).mono ?_
      rintro e w2 ⟨rfl, rfl⟩
      go_wp2_with fail
      go_ret
      exact ⟨rfl, B1⟩
  · simp only [g, decide_false] at c1
    have hc : letC I q = 1 := by unfold letC; rw [if_pos g]
    rw [hc]
    have C1 := Lib.hid c1
    clear c1 hc g
    go_enter Try.func88, Try.ntmps88
    go_wp2_with fail
    refine (C1.out _ H.out).mono ?_
    rintro e w1 ⟨rfl, b1⟩
    have B1 := HBN.out.then b1
    go_wp2_with fail
    go_ret
    exact ⟨rfl, B1⟩
end Go.Proofs.Ytolboinemechpab
