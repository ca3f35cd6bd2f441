/- Morphisms: the test as it is listed, and the codes of a morphism and a word of its letters. -/
import Derived.Test.YtfipbnognjepkaaDoorMorP
namespace Go.Proofs.YtfipbnognjepkaaDoor
set_option linter.unusedVariables false
set_option linter.unusedSimpArgs false
open Go.RowKit

theorem l06Is_any (B : Nat) (v : Value) (I : List (List UInt8)) (w : World) (h : OwnS w B v (I.map bt)) (t : Tot I) :
    Calls Tryd.prog 59 #[.agg #[v]] w fun e w' => e = .returned (.bool (decide (Mor I))) ∧ Below w.heap.size w w' := by
  by_cases g : Mor I
  · rw [show decide (Mor I) = true by simp [g]]; exact l06Is_yes B v I w h g
  · rw [show decide (Mor I) = false by simp [g]]; exact l06Is_no B v I w h t g

theorem impl_IsMorphism (B : Nat) (v : Value) (I : List (List UInt8)) (w : World) (h : OwnS w B v (I.map bt)) (t : Tot I) :
    Calls Tryd.prog 63 #[.agg #[v]] w fun e w' => e = .returned (.bool (decide (Mor I))) ∧ Below w.heap.size w w' := by
  by_cases g : Mor I
  · rw [show decide (Mor I) = true by simp [g]]; exact isMor_yes B v I w h g
  · rw [show decide (Mor I) = false by simp [g]]; exact isMor_no B v I w h t g

/-! ### The codes. -/
def mwAns (I : List (List UInt8)) (x : ByteArray) (w : World) (e : Ending) (w' : World) : Prop := e = .returned (.int .i64 (mwC I x)) ∧ Below w.heap.size w w'
set_option maxRecDepth 100000 in
set_option maxHeartbeats 1000000 in
theorem checkWord_any (B : Nat) (v : Value) (I : List (List UInt8)) (x : ByteArray) (w : World) (h : OwnS w B v (I.map bt)) (t : Tot I) (sx : x.size ≤ maxLen) :
    Calls Tryd.prog 154 #[.agg #[v], .string x] w (mwAns I x w) := by
  obtain ⟨p, c, hv⟩ := ownS_value h
  rw [List.length_map] at hv
  subst hv
  have hI := t.1
  have BN : Below w.heap.size w (w.alloc (.cells #[.slice p I.length c] 29)) := Below.new _ _
  have QN : Boxed (w.alloc (.cells #[.slice p I.length c] 29)) w.heap.size 29 (.slice p I.length c) := Boxed.new _ _ _
  have HBN := Lib.hid BN
  have HQN := Lib.hid QN
  have H := Lib.hid (h.below BN)
  clear BN QN h
  by_cases g : Mor I
  · have c1 := fun W h => isMor_yes B (.slice p I.length c) I W h g
    have C1 := Lib.hid c1
    by_cases sw : IsW x
    · have c2 := fun W => isWord_yes x W sw
      have C2 := Lib.hid c2
      by_cases sf : Few I.length x
      · have c3 := fun W => hasFirst_yes x I.length W sw sf g.len5
        have C3 := Lib.hid c3
        have HM := Lib.hid (mwC_ok ⟨g, sw⟩ sf)
        clear c1 c2 c3 sw sf g
        go_enter Tryd.func154, Tryd.ntmps154
        go_wp2_with fail
        refine (C1.out _ H.out).mono ?_
        rintro e w1 ⟨rfl, b1⟩
        have kq := (boxed_later HQN.out b1).cell
        have B1 := HBN.out.then b1
        go_wp2_with fail
        refine (C2.out _).mono ?_
        rintro e w2 ⟨rfl, b2⟩
        have B2 := B1.then b2
        have kq := (boxed_later (boxed_later HQN.out b1) b2).cell
        go_wp2_with fail
        refine (C3.out _).mono ?_
        rintro e w3 ⟨rfl, b3⟩
        have B3 := B2.then b3
        go_wp2_with fail
        go_ret
        exact ⟨by rw [HM.out]; rfl, B3⟩
      · have c3 := fun W => hasFirst_no x I.length W sw sf g.len5
        have C3 := Lib.hid c3
        have HM := Lib.hid (mwC_out ⟨g, sw⟩ sf)
        clear c1 c2 c3 sw sf g
        go_enter Tryd.func154, Tryd.ntmps154
        go_wp2_with fail
        refine (C1.out _ H.out).mono ?_
        rintro e w1 ⟨rfl, b1⟩
        have kq := (boxed_later HQN.out b1).cell
        have B1 := HBN.out.then b1
        go_wp2_with fail
        refine (C2.out _).mono ?_
        rintro e w2 ⟨rfl, b2⟩
        have B2 := B1.then b2
        have kq := (boxed_later (boxed_later HQN.out b1) b2).cell
        go_wp2_with fail
        refine (C3.out _).mono ?_
        rintro e w3 ⟨rfl, b3⟩
        have B3 := B2.then b3
        go_wp2_with fail
        go_ret
        exact ⟨by rw [HM.out]; rfl, B3⟩
    · have c2 := fun W => isWord_not x W sx sw
      have C2 := Lib.hid c2
      have HM := Lib.hid (mwC_bad (I := I) (x := x) (fun k => sw k.2))
      clear c1 c2 sw g
      go_enter Tryd.func154, Tryd.ntmps154
      go_wp2_with fail
      refine (C1.out _ H.out).mono ?_
      rintro e w1 ⟨rfl, b1⟩
      have B1 := HBN.out.then b1
      go_wp2_with fail
      refine (C2.out _).mono ?_
      rintro e w2 ⟨rfl, b2⟩
      have B2 := B1.then b2
      have kq := (boxed_later (boxed_later HQN.out b1) b2).cell
      go_wp2_with fail
      go_ret
      exact ⟨by rw [HM.out]; rfl, B2⟩
  · have c1 := fun W h => isMor_no B (.slice p I.length c) I W h t g
    have C1 := Lib.hid c1
    have HM := Lib.hid (mwC_bad (I := I) (x := x) (fun k => g k.1))
    clear c1 g
    go_enter Tryd.func154, Tryd.ntmps154
    go_wp2_with fail
    refine (C1.out _ H.out).mono ?_
    rintro e w1 ⟨rfl, b1⟩
    have B1 := HBN.out.then b1
    go_wp2_with fail
    go_ret
    exact ⟨by rw [HM.out]; rfl, B1⟩

end Go.Proofs.YtfipbnognjepkaaDoor
