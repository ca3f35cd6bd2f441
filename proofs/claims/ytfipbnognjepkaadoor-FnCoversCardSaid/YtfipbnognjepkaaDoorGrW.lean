/- GrowByCover: the tests, in their order. -/
import Derived.Test.YtfipbnognjepkaaDoorGrT
import Derived.Deep.RegionWith
namespace Go.Proofs.YtfipbnognjepkaaDoor
set_option linter.unusedVariables false
set_option linter.unusedSimpArgs false
open Go.RowKit

/-- The cells of a growth and of a test, past calls. -/
theorem grow_past {wr W' w1 : World} {b : Nat} {x1 x2 y1 y2 : Value} (b1 : Below w1.heap.size w1 W')
    (h : w1.cell? ⟨b, 0, none⟩ = some x1 ∧ w1.cell? ⟨b, 1, none⟩ = some x2 ∧ w1.cell? ⟨wr.heap.size, 0, none⟩ = some y1 ∧ w1.cell? ⟨wr.heap.size, 1, none⟩ = some y2 ∧ wr.heap.size < w1.heap.size ∧ Below wr.heap.size wr w1) (hb : b < wr.heap.size) :
    W'.cell? ⟨b, 0, none⟩ = some x1 ∧ W'.cell? ⟨b, 1, none⟩ = some x2 ∧ W'.cell? ⟨wr.heap.size, 0, none⟩ = some y1 ∧ W'.cell? ⟨wr.heap.size, 1, none⟩ = some y2 ∧ wr.heap.size < W'.heap.size ∧ Below wr.heap.size wr W' := by
  obtain ⟨h1, h2, h3, h4, h6, h5⟩ := h
  have hs := b1.size
  exact ⟨by rw [b1.cell (show b < _ by omega)]; exact h1, by rw [b1.cell (show b < _ by omega)]; exact h2, by rw [b1.cell (show wr.heap.size < _ by omega)]; exact h3, by rw [b1.cell (show wr.heap.size < _ by omega)]; exact h4, by omega, h5.then b1⟩
theorem test_new {wr : World} {b : Nat} {x1 x2 y1 y2 : Value} {T : TypeId} (q0 : wr.cell? ⟨b, 0, none⟩ = some x1) (q1 : wr.cell? ⟨b, 1, none⟩ = some x2) (hb : b < wr.heap.size) :
    let W' := wr.alloc (.cells #[y1, y2] T)
    W'.cell? ⟨b, 0, none⟩ = some x1 ∧ W'.cell? ⟨b, 1, none⟩ = some x2 ∧ W'.cell? ⟨wr.heap.size, 0, none⟩ = some y1 ∧ W'.cell? ⟨wr.heap.size, 1, none⟩ = some y2 ∧ wr.heap.size < W'.heap.size ∧ Below wr.heap.size wr W' := by
  have hB : Below wr.heap.size wr (wr.alloc (.cells #[y1, y2] T)) := Below.new _ _
  exact ⟨by rw [hB.cell (show b < _ from hb)]; exact q0, by rw [hB.cell (show b < _ from hb)]; exact q1, by simp [go_sem], by simp [go_sem], by simp, hB⟩
theorem test_drew {wr W : World} {b : Nat} {x1 x2 y1 y2 : Value} (h : W.cell? ⟨b, 0, none⟩ = some x1 ∧ W.cell? ⟨b, 1, none⟩ = some x2 ∧ W.cell? ⟨wr.heap.size, 0, none⟩ = some y1 ∧ W.cell? ⟨wr.heap.size, 1, none⟩ = some y2 ∧ wr.heap.size < W.heap.size ∧ Below wr.heap.size wr W) :
    W.drew.cell? ⟨b, 0, none⟩ = some x1 ∧ W.drew.cell? ⟨b, 1, none⟩ = some x2 ∧ W.drew.cell? ⟨wr.heap.size, 0, none⟩ = some y1 ∧ W.drew.cell? ⟨wr.heap.size, 1, none⟩ = some y2 ∧ wr.heap.size < W.drew.heap.size ∧ Below wr.heap.size wr W.drew := by
  obtain ⟨h1, h2, h3, h4, h6, h5⟩ := h
  exact ⟨h1, h2, h3, h4, h6, h5.drew⟩
/-- The cells of the growth and of the three tests. -/
def GrwC (b : Nat) (u : ByteArray) (v : Value) (W : World) : Prop := (W.cell? ⟨b, 0, none⟩ = some (.string u) ∧ W.cell? ⟨b, 1, none⟩ = some v) ∧
  (W.cell? ⟨b + 1, 0, none⟩ = some (.func (.func 164) #[] #[]) ∧ W.cell? ⟨b + 1, 1, none⟩ = some (.int .i64 2)) ∧
  (W.cell? ⟨b + 1, 2, none⟩ = some (.func (.func 165) #[] #[]) ∧ W.cell? ⟨b + 1, 3, none⟩ = some (.int .i64 4)) ∧
  (W.cell? ⟨b + 1, 4, none⟩ = some (.func (.func 166) #[] #[]) ∧ W.cell? ⟨b + 1, 5, none⟩ = some (.int .i64 3)) ∧ b + 2 ≤ W.heap.size
theorem GrwC.later {b : Nat} {u : ByteArray} {v : Value} {W W' : World} (h : GrwC b u v W) (k : Below W.heap.size W W') : GrwC b u v W' := by
  obtain ⟨⟨h1, h2⟩, ⟨h3, h4⟩, ⟨h5, h6⟩, ⟨h7, h8⟩, h9⟩ := h
  have hs := k.size
  refine ⟨⟨?_, ?_⟩, ⟨?_, ?_⟩, ⟨?_, ?_⟩, ⟨?_, ?_⟩, by omega⟩ <;> (rw [k.cell (by simp; omega)]; assumption)
/-- The code of the first test that a growth fails, or none. -/
def wrongC (u : ByteArray) (L : List Int) : Int := if inR u L = true then (if fitR u L = true then (if roomR u L = true then 0 else 3) else 4) else 2
theorem wrongC_in {u : ByteArray} {L : List Int} (h : inR u L = false) : wrongC u L = 2 := by unfold wrongC; rw [if_neg (by rw [h]; exact Bool.noConfusion)]
theorem wrongC_fit {u : ByteArray} {L : List Int} (h : inR u L = true) (k : fitR u L = false) : wrongC u L = 4 := by unfold wrongC; rw [if_pos h, if_neg (by rw [k]; exact Bool.noConfusion)]
theorem wrongC_room {u : ByteArray} {L : List Int} (h : inR u L = true) (k : fitR u L = true) (r : roomR u L = false) : wrongC u L = 3 := by unfold wrongC; rw [if_pos h, if_pos k, if_neg (by rw [r]; exact Bool.noConfusion)]
theorem wrongC_none {u : ByteArray} {L : List Int} (h : inR u L = true) (k : fitR u L = true) (r : roomR u L = true) : wrongC u L = 0 := by unfold wrongC; rw [if_pos h, if_pos k, if_pos r]
theorem inR_yes {u : ByteArray} {L : List Int} (h : inR u L = true) : (∀ z ∈ L, 0 ≤ z ∧ z < u.size) ∧ ¬ u.size = 0 := of_decide_eq_true h

theorem refuse_end (u : ByteArray) (L : List Int) (w W : World) (a : Array Value) {c : Int} (hc : wrongC u L = c) (h0 : ¬ c = 0) (hb : Below w.heap.size w W) :
    bodyPost Tryd.prog Tryd.f118 (fun e w' => ((wrongC u L = 0 ∧ e = .returned (.tuple #[])) ∨ (¬ wrongC u L = 0 ∧ e = .panicked [refused (wrongC u L)])) ∧ Below w.heap.size w w') (Exit.panic [refused c]) { tmps := a, defers := [] } W := by
  rw [hc]
  exact ⟨rfl, .inr ⟨h0, rfl⟩, hb⟩
set_option maxRecDepth 100000 in
set_option maxHeartbeats 4000000 in
theorem refuseWrong_any (B : Nat) (v : Value) (L : List Int) (u : ByteArray) (w : World) (h : OwnI w B v L) (hl : L.length ≤ 1048576) (su : u.size ≤ 60) :
    Calls Tryd.prog 118 #[.agg #[.string u, v]] w fun e w' => ((wrongC u L = 0 ∧ e = .returned (.tuple #[])) ∨ (¬ wrongC u L = 0 ∧ e = .panicked [refused (wrongC u L)])) ∧ Below w.heap.size w w' := by
  have hmo : Tryd.prog.follows .mixedOrders = true := by kernel_rfl
  have hown : ∀ W, Below w.heap.size w W → OwnI W B v L := fun W b => OwnI.below h b
  have hst : ∀ (a : Addr) (f : Fn) (x y : Array Value) (m : Mode) (W : World), (store a (.func f x y) m).run Tryd.prog W = stored Tryd.prog W a (.func f x y) m := fun a f x y m W => run_store Tryd.prog W a _ m rfl
  have C1 := Lib.hid (fun W (b : Below w.heap.size w W) => inRange_any _ v L u W (hown W b) hl su)
  have C2 := Lib.hid (fun W (b : Below w.heap.size w W) (hr : inR u L = true) => fits_any _ v L u W (hown W b) hl su (inR_yes hr).1)
  have C3 := Lib.hid (fun W (b : Below w.heap.size w W) (hr : inR u L = true) => room_any _ v L u W (hown W b) hl su (inR_yes hr).1)
  clear hown h
  go_enter Tryd.func118, Tryd.ntmps118
  go_wp2_with fail
  go_loopw [11] (fun s11 wr => Below w.heap.size w wr ∧ GrwC w.heap.size u v wr ∧ ∃ k : Nat, k ≤ 3 ∧ s11 = .int .i64 (k : Int) ∧ (0 < k → inR u L = true) ∧ (1 < k → fitR u L = true) ∧ (2 < k → roomR u L = true))
    (fun s11 _ => 3 - (intOf s11).toNat)
  case atStart =>
    refine ⟨(Below.new _ _).alloc (by simp) _, ?_, 0, by omega, rfl, by omega, by omega, by omega⟩
    unfold GrwC
    simp [go_sem]
  case round =>
    obtain ⟨hB1, hC, k, hk, rfl, r1, r2, r3⟩ := hrel
    have hC2 := hC
    obtain ⟨⟨q0, q1⟩, ⟨q2, q3⟩, ⟨q4, q5⟩, ⟨q6, q7⟩, q8⟩ := hC2
    have hbw : w.heap.size < wr.heap.size := by omega
    rcases (show k = 0 ∨ k = 1 ∨ k = 2 ∨ k = 3 by omega) with rfl | rfl | rfl | rfl
    · cases hb : inR u L with
      | true =>
        have CC0 := (fun W b => C1.out W b)
        rw [hb] at CC0
        have CC := Lib.hid (fun W (hh : W.cell? ⟨w.heap.size, 0, none⟩ = some (.string u) ∧ W.cell? ⟨w.heap.size, 1, none⟩ = some v ∧ W.cell? ⟨wr.heap.size, 0, none⟩ = some (.func (.func 164) #[] #[]) ∧ W.cell? ⟨wr.heap.size, 1, none⟩ = some (.int .i64 2) ∧ wr.heap.size < W.heap.size ∧ Below wr.heap.size wr W) => (CC0 W (hB1.then hh.2.2.2.2.2)).mono (fun e w' (h : _ ∧ _) => And.intro h.1 (grow_past h.2 hh hbw)))
        clear C1 C2 C3 CC0
        go_wp2_with fail
        go_region_held3 (fun w' => w'.cell? ⟨w.heap.size, 0, none⟩ = some (.string u) ∧ w'.cell? ⟨w.heap.size, 1, none⟩ = some v ∧ w'.cell? ⟨wr.heap.size, 0, none⟩ = some (.func (.func 164) #[] #[]) ∧ w'.cell? ⟨wr.heap.size, 1, none⟩ = some (.int .i64 2) ∧ wr.heap.size < w'.heap.size ∧ Below wr.heap.size wr w') (first | assumption | exact test_new q0 q1 hbw | exact test_drew (test_new q0 q1 hbw) | exact test_drew (by assumption)) (first | (go_at_call 164; refine (CC.out _ (by first | assumption | exact test_new q0 q1 hbw | exact test_drew (test_new q0 q1 hbw) | exact test_drew (by assumption))).mono ?_; rintro e w5 ⟨rfl, kp⟩) | (go_at_call 70; with_reducible refine (refuse_yes _ _).mono ?_; rintro e w6 ⟨rfl, rfl⟩))
        all_goals (
          have kp := (by first | assumption | exact test_new q0 q1 hbw | exact test_drew (test_new q0 q1 hbw) : _ ∧ _ ∧ _ ∧ _ ∧ _ ∧ Below wr.heap.size wr _)
          go_wp2_with fail
          refine ⟨⟨hB1.then kp.2.2.2.2.2, hC.later kp.2.2.2.2.2, 1, by omega, by go_num, fun _ => by first | trivial | exact hb, by omega, by omega⟩, by simp [intOf]⟩)
      | false =>
        have CC0 := (fun W b => C1.out W b)
        rw [hb] at CC0
        have CC := Lib.hid (fun W (hh : W.cell? ⟨w.heap.size, 0, none⟩ = some (.string u) ∧ W.cell? ⟨w.heap.size, 1, none⟩ = some v ∧ W.cell? ⟨wr.heap.size, 0, none⟩ = some (.func (.func 164) #[] #[]) ∧ W.cell? ⟨wr.heap.size, 1, none⟩ = some (.int .i64 2) ∧ wr.heap.size < W.heap.size ∧ Below wr.heap.size wr W) => (CC0 W (hB1.then hh.2.2.2.2.2)).mono (fun e w' (h : _ ∧ _) => And.intro h.1 (grow_past h.2 hh hbw)))
        clear C1 C2 C3 CC0
        go_wp2_with fail
        go_region_with (first | (go_at_call 164; refine (CC.out _ (by first | assumption | exact test_new q0 q1 hbw | exact test_drew (test_new q0 q1 hbw) | exact test_drew (by assumption))).mono ?_; rintro e w5 ⟨rfl, kp⟩) | (go_at_call 70; with_reducible refine (refuse_no _ _).mono ?_; rintro e w6 ⟨rfl, rfl⟩; have hwc := wrongC_in hb; have hbl := hB1.then (by assumption : _ ∧ _ ∧ _ ∧ _ ∧ _ ∧ Below wr.heap.size wr _).2.2.2.2.2; go_simp; (repeat go_step); suffices hx : wpAny Tryd.prog Region.Mode.any #[] (fun _ _ _ => True) 0 #[] { tmps := #[], defers := [] } w6 from refuse_end u L w w6 _ hwc (by omega) hbl))
        all_goals (try exact trivial)
    · cases hb : fitR u L with
      | true =>
        have CC0 := (fun W b => C2.out W b (r1 (by omega)))
        rw [hb] at CC0
        have CC := Lib.hid (fun W (hh : W.cell? ⟨w.heap.size, 0, none⟩ = some (.string u) ∧ W.cell? ⟨w.heap.size, 1, none⟩ = some v ∧ W.cell? ⟨wr.heap.size, 0, none⟩ = some (.func (.func 165) #[] #[]) ∧ W.cell? ⟨wr.heap.size, 1, none⟩ = some (.int .i64 4) ∧ wr.heap.size < W.heap.size ∧ Below wr.heap.size wr W) => (CC0 W (hB1.then hh.2.2.2.2.2)).mono (fun e w' (h : _ ∧ _) => And.intro h.1 (grow_past h.2 hh hbw)))
        clear C1 C2 C3 CC0
        go_wp2_with fail
        go_region_held3 (fun w' => w'.cell? ⟨w.heap.size, 0, none⟩ = some (.string u) ∧ w'.cell? ⟨w.heap.size, 1, none⟩ = some v ∧ w'.cell? ⟨wr.heap.size, 0, none⟩ = some (.func (.func 165) #[] #[]) ∧ w'.cell? ⟨wr.heap.size, 1, none⟩ = some (.int .i64 4) ∧ wr.heap.size < w'.heap.size ∧ Below wr.heap.size wr w') (first | assumption | exact test_new q0 q1 hbw | exact test_drew (test_new q0 q1 hbw) | exact test_drew (by assumption)) (first | (go_at_call 165; refine (CC.out _ (by first | assumption | exact test_new q0 q1 hbw | exact test_drew (test_new q0 q1 hbw) | exact test_drew (by assumption))).mono ?_; rintro e w5 ⟨rfl, kp⟩) | (go_at_call 70; with_reducible refine (refuse_yes _ _).mono ?_; rintro e w6 ⟨rfl, rfl⟩))
        all_goals (
          have kp := (by first | assumption | exact test_new q0 q1 hbw | exact test_drew (test_new q0 q1 hbw) : _ ∧ _ ∧ _ ∧ _ ∧ _ ∧ Below wr.heap.size wr _)
          go_wp2_with fail
          refine ⟨⟨hB1.then kp.2.2.2.2.2, hC.later kp.2.2.2.2.2, 2, by omega, by go_num, fun _ => r1 (by omega), fun _ => by first | trivial | exact hb, by omega⟩, by simp [intOf]⟩)
      | false =>
        have CC0 := (fun W b => C2.out W b (r1 (by omega)))
        rw [hb] at CC0
        have CC := Lib.hid (fun W (hh : W.cell? ⟨w.heap.size, 0, none⟩ = some (.string u) ∧ W.cell? ⟨w.heap.size, 1, none⟩ = some v ∧ W.cell? ⟨wr.heap.size, 0, none⟩ = some (.func (.func 165) #[] #[]) ∧ W.cell? ⟨wr.heap.size, 1, none⟩ = some (.int .i64 4) ∧ wr.heap.size < W.heap.size ∧ Below wr.heap.size wr W) => (CC0 W (hB1.then hh.2.2.2.2.2)).mono (fun e w' (h : _ ∧ _) => And.intro h.1 (grow_past h.2 hh hbw)))
        clear C1 C2 C3 CC0
        go_wp2_with fail
        go_region_with (first | (go_at_call 165; refine (CC.out _ (by first | assumption | exact test_new q0 q1 hbw | exact test_drew (test_new q0 q1 hbw) | exact test_drew (by assumption))).mono ?_; rintro e w5 ⟨rfl, kp⟩) | (go_at_call 70; with_reducible refine (refuse_no _ _).mono ?_; rintro e w6 ⟨rfl, rfl⟩; have hwc := wrongC_fit (r1 (by omega)) hb; have hbl := hB1.then (by assumption : _ ∧ _ ∧ _ ∧ _ ∧ _ ∧ Below wr.heap.size wr _).2.2.2.2.2; go_simp; (repeat go_step); suffices hx : wpAny Tryd.prog Region.Mode.any #[] (fun _ _ _ => True) 0 #[] { tmps := #[], defers := [] } w6 from refuse_end u L w w6 _ hwc (by omega) hbl))
        all_goals (try exact trivial)
    · cases hb : roomR u L with
      | true =>
        have CC0 := (fun W b => C3.out W b (r1 (by omega)))
        rw [hb] at CC0
        have CC := Lib.hid (fun W (hh : W.cell? ⟨w.heap.size, 0, none⟩ = some (.string u) ∧ W.cell? ⟨w.heap.size, 1, none⟩ = some v ∧ W.cell? ⟨wr.heap.size, 0, none⟩ = some (.func (.func 166) #[] #[]) ∧ W.cell? ⟨wr.heap.size, 1, none⟩ = some (.int .i64 3) ∧ wr.heap.size < W.heap.size ∧ Below wr.heap.size wr W) => (CC0 W (hB1.then hh.2.2.2.2.2)).mono (fun e w' (h : _ ∧ _) => And.intro h.1 (grow_past h.2 hh hbw)))
        clear C1 C2 C3 CC0
        go_wp2_with fail
        go_region_held3 (fun w' => w'.cell? ⟨w.heap.size, 0, none⟩ = some (.string u) ∧ w'.cell? ⟨w.heap.size, 1, none⟩ = some v ∧ w'.cell? ⟨wr.heap.size, 0, none⟩ = some (.func (.func 166) #[] #[]) ∧ w'.cell? ⟨wr.heap.size, 1, none⟩ = some (.int .i64 3) ∧ wr.heap.size < w'.heap.size ∧ Below wr.heap.size wr w') (first | assumption | exact test_new q0 q1 hbw | exact test_drew (test_new q0 q1 hbw) | exact test_drew (by assumption)) (first | (go_at_call 166; refine (CC.out _ (by first | assumption | exact test_new q0 q1 hbw | exact test_drew (test_new q0 q1 hbw) | exact test_drew (by assumption))).mono ?_; rintro e w5 ⟨rfl, kp⟩) | (go_at_call 70; with_reducible refine (refuse_yes _ _).mono ?_; rintro e w6 ⟨rfl, rfl⟩))
        all_goals (
          have kp := (by first | assumption | exact test_new q0 q1 hbw | exact test_drew (test_new q0 q1 hbw) : _ ∧ _ ∧ _ ∧ _ ∧ _ ∧ Below wr.heap.size wr _)
          go_wp2_with fail
          refine ⟨⟨hB1.then kp.2.2.2.2.2, hC.later kp.2.2.2.2.2, 3, by omega, by go_num, fun _ => r1 (by omega), fun _ => r2 (by omega), fun _ => by first | trivial | exact hb⟩, by simp [intOf]⟩)
      | false =>
        have CC0 := (fun W b => C3.out W b (r1 (by omega)))
        rw [hb] at CC0
        have CC := Lib.hid (fun W (hh : W.cell? ⟨w.heap.size, 0, none⟩ = some (.string u) ∧ W.cell? ⟨w.heap.size, 1, none⟩ = some v ∧ W.cell? ⟨wr.heap.size, 0, none⟩ = some (.func (.func 166) #[] #[]) ∧ W.cell? ⟨wr.heap.size, 1, none⟩ = some (.int .i64 3) ∧ wr.heap.size < W.heap.size ∧ Below wr.heap.size wr W) => (CC0 W (hB1.then hh.2.2.2.2.2)).mono (fun e w' (h : _ ∧ _) => And.intro h.1 (grow_past h.2 hh hbw)))
        clear C1 C2 C3 CC0
        go_wp2_with fail
        go_region_with (first | (go_at_call 166; refine (CC.out _ (by first | assumption | exact test_new q0 q1 hbw | exact test_drew (test_new q0 q1 hbw) | exact test_drew (by assumption))).mono ?_; rintro e w5 ⟨rfl, kp⟩) | (go_at_call 70; with_reducible refine (refuse_no _ _).mono ?_; rintro e w6 ⟨rfl, rfl⟩; have hwc := wrongC_room (r1 (by omega)) (r2 (by omega)) hb; have hbl := hB1.then (by assumption : _ ∧ _ ∧ _ ∧ _ ∧ _ ∧ Below wr.heap.size wr _).2.2.2.2.2; go_simp; (repeat go_step); suffices hx : wpAny Tryd.prog Region.Mode.any #[] (fun _ _ _ => True) 0 #[] { tmps := #[], defers := [] } w6 from refuse_end u L w w6 _ hwc (by omega) hbl))
        all_goals (try exact trivial)
    · have hw := wrongC_none (r1 (by omega)) (r2 (by omega)) (r3 (by omega))
      clear C1 C2 C3
      go_wp2_with fail
      go_end0
      exact ⟨.inl ⟨hw, rfl⟩, hB1⟩

end Go.Proofs.YtfipbnognjepkaaDoor
