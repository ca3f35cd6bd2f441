/- The first place of a pattern: the program. -/
import Derived.Test.YtfipbnognjepkaaDoorDoorF
import Derived.Test.YtfipbnognjepkaaDoorPatF
import Derived.Test.YtfipbnognjepkaaDoorPatH
import Derived.Test.YtfipbnognjepkaaDoorUnaI
import Derived.Test.YtfipbnognjepkaaDoorPlcR
namespace Go.Proofs.YtfipbnognjepkaaDoor
set_option linter.unusedVariables false
set_option linter.unusedSimpArgs false
open Go.RowKit

theorem fit_written {w4 : World} {B r : Nat} (z : FitZ w4 B r) (u v : Value) (o : Obj) :
    (((w4.setCell ⟨r, 0, none⟩ u).setCell ⟨r, 1, none⟩ v).alloc o).cell? ⟨r, 0, none⟩ = some u ∧ (((w4.setCell ⟨r, 0, none⟩ u).setCell ⟨r, 1, none⟩ v).alloc o).cell? ⟨r, 1, none⟩ = some v ∧
    (((w4.setCell ⟨r, 0, none⟩ u).setCell ⟨r, 1, none⟩ v).alloc o).frozen? ⟨r, 0, none⟩ = false ∧ (((w4.setCell ⟨r, 0, none⟩ u).setCell ⟨r, 1, none⟩ v).alloc o).frozen? ⟨r, 1, none⟩ = false := by
  have n1 : (⟨r, 0, none⟩ : Addr) ≠ ⟨r, 1, none⟩ := by simp
  have a1 : (w4.setCell ⟨r, 0, none⟩ u).cell? ⟨r, 0, none⟩ = some u := by simp [go_sem, z.2.2.1]
  have a2 : (w4.setCell ⟨r, 0, none⟩ u).cell? ⟨r, 1, none⟩ = some (.slice none 0 0) := by rw [← z.2.2.2.1]; simp [go_sem]
  have b1 : ((w4.setCell ⟨r, 0, none⟩ u).setCell ⟨r, 1, none⟩ v).cell? ⟨r, 0, none⟩ = some u := by rw [← a1]; simp [go_sem]
  have b2 : ((w4.setCell ⟨r, 0, none⟩ u).setCell ⟨r, 1, none⟩ v).cell? ⟨r, 1, none⟩ = some v := by simp [go_sem, a2]
  have hs : r < ((w4.setCell ⟨r, 0, none⟩ u).setCell ⟨r, 1, none⟩ v).heap.size := by simpa using z.2.1
  refine ⟨?_, ?_, ?_, ?_⟩
  · rw [World.cell?_alloc_some _ _ _ (by rw [b1]; rfl), b1]
  · rw [World.cell?_alloc_some _ _ _ (by rw [b2]; rfl), b2]
  · rw [World.frozen?_alloc_past _ _ _ hs]; simpa using z.2.2.2.2.1
  · rw [World.frozen?_alloc_past _ _ _ hs]; simpa using z.2.2.2.2.2
set_option maxRecDepth 100000 in
set_option maxHeartbeats 2000000 in
theorem FirstPlace1_any (b1 b2 : Nat) (x p : ByteArray) (w : World) (c1 : Boxed w b1 9 (.string x)) (c2 : Boxed w b2 9 (.string p)) (sx : x.size ≤ maxLen) (sp : p.size ≤ maxLen) :
    Calls Tryd.prog 69 #[.pointer (some ⟨b1, 0, none⟩), .pointer (some ⟨b2, 0, none⟩)] w fun e w' => Below w.heap.size w w' ∧
      (IsW x ∧ IsP p → ∃ g, w.heap.size ≤ g ∧ LettersAt w' g (bl x) ∧ EndG g (bl x) (vsOf (bl p)) w.heap.size (pff (bl x) (bl p)) 4 e w') ∧
      (¬ (IsW x ∧ IsP p) → e = .panicked [refused 1]) := by
  have k1 := c1.cell
  have k2 := c2.cell
  have l1 := c1.lt
  have l2 := c2.lt
  have q1 := (c1.alloc (.cells #[.int .i64 0, .slice none 0 0] 78))
  have q2 := (c2.alloc (.cells #[.int .i64 0, .slice none 0 0] 78))
  have lq1 := q1.lt
  have lq2 := q2.lt
  have e1 := q1.cell
  have e2 := q2.cell
  have Z0 := Lib.hid (FitZ.new (W := w) (B := w.heap.size) (Nat.le_refl _))
  have b0 : Below w.heap.size w (w.alloc (.cells #[.int .i64 0, .slice none 0 0] 78)) := Below.new _ _
  by_cases hx : IsW x
  · by_cases hp : IsP p
    · have HX := Lib.hid hx
      have HP := Lib.hid hp
      have CF := Lib.hid (fun W => firstFit_any p x hp hx W)
      have HB := Lib.hid (show IsW x ∧ IsP p from ⟨hx, hp⟩)
      clear hx hp
      generalize hr : pff (bl x) (bl p) = r at *
      clear hr
      cases r with
      | none =>
        go_enter Tryd.func69, Tryd.ntmps69
        go_wp2_with (first | (go_at_call 61; (with_reducible refine (isWord_yes x _ HX.out).mono ?_); rintro e w1 ⟨rfl, a0⟩; have d1 := boxed_past q1 a0 lq1; have d2 := boxed_past q2 a0 lq2; have k3 := d1.cell; have k4 := d2.cell; have l3 := d1.lt; have l4 := d2.lt) | (go_at_call 62; (with_reducible refine (isPattern_yes p HP.out _).mono ?_); rintro e w2 ⟨rfl, a1⟩; have d3 := boxed_past d1 a1 l3; have d4 := boxed_past d2 a1 l4; have k5 := d3.cell; have k6 := d4.cell) | (go_at_call 70; first | ((with_reducible refine (refuse_yes _ _).mono ?_); rintro e w3 ⟨rfl, rfl⟩) | ((with_reducible refine (refuse_no _ _).mono ?_); rintro e w3 ⟨rfl, rfl⟩)) | (go_at_call 71; (with_reducible refine (CF.out _).mono ?_); rintro e w4 ⟨a4, g, hg, he, hL⟩; obtain rfl : e = .returned (.tuple #[.agg #[.int .i64 0, .slice none 0 0], .bool false]) := he))
        refine ⟨rfl, ((b0.then a0).then a1).then a4 |>.alloc (by have := (((b0.then a0).then a1).then a4).size; omega) _, fun _ => ⟨g, ?_, ?_, rfl⟩, fun h => absurd HB.out h⟩
        · have := ((b0.then a0).then a1).size; omega
        · exact hL.past (Below.new _ _)
      | some iW =>
        obtain ⟨i, W⟩ := iW
        go_enter Tryd.func69, Tryd.ntmps69
        go_wp2_with (first | (go_at_call 61; (with_reducible refine (isWord_yes x _ HX.out).mono ?_); rintro e w1 ⟨rfl, a0⟩; have d1 := boxed_past q1 a0 lq1; have d2 := boxed_past q2 a0 lq2; have k3 := d1.cell; have k4 := d2.cell; have l3 := d1.lt; have l4 := d2.lt) | (go_at_call 62; (with_reducible refine (isPattern_yes p HP.out _).mono ?_); rintro e w2 ⟨rfl, a1⟩; have d3 := boxed_past d1 a1 l3; have d4 := boxed_past d2 a1 l4; have k5 := d3.cell; have k6 := d4.cell) | (go_at_call 70; first | ((with_reducible refine (refuse_yes _ _).mono ?_); rintro e w3 ⟨rfl, rfl⟩) | ((with_reducible refine (refuse_no _ _).mono ?_); rintro e w3 ⟨rfl, rfl⟩)))
        (with_reducible refine (CF.out _).mono ?_)
        rintro e w4 ⟨a4, g, hg, he, hL⟩
        obtain ⟨v1, rfl, hown⟩ := he
        obtain ⟨va, vn, vc, rfl⟩ := hown.shape
        have z4 := FitZ.past a4 (FitZ.past a1 (FitZ.past a0 Z0.out))
        have z5 := FitZ.past (Below.new w4 (.cells #[.int .i64 (i : Int), .slice va vn vc] 78)) z4
        have y1 := z5.2.2.1
        have y2 := z5.2.2.2.1
        have y3 := z5.2.2.2.2.1
        have y4 := z5.2.2.2.2.2
        have ylt := z4.2.1
        have x1 := z4.2.2.1
        have x2 := z4.2.2.2.1
        have x3 := z4.2.2.2.2.1
        have x4 := z4.2.2.2.2.2
        have u2 : (w4.setCell ⟨w.heap.size, 0, none⟩ (.int .i64 (i : Int))).cell? ⟨w.heap.size, 1, none⟩ = some (.slice none 0 0) := (by rw [← x2]; simp [go_sem])
        go_wp2_with (go_at_call 70; (with_reducible refine (refuse_yes _ _).mono ?_); rintro e w3 ⟨rfl, rfl⟩)
        obtain ⟨v1, v2, v3, v4⟩ := fit_written z4 (.int .i64 (i : Int)) (.slice va vn vc) (.cells #[.int .i64 (i : Int), .slice va vn vc] 78)
        have hbt : Below w.heap.size w w4 := ((b0.then a0).then a1).then a4
        have hgw : w.heap.size < w3.heap.size := by have h1 := (a0.size); have h2 := a1.size; simp at h1; omega
        refine bodyPost_ret (v := .agg #[.int .i64 (i : Int), .slice va vn vc]) (by simp [results, Tryd.results69, go_sem, v1, v2, v3, v4]) rfl ?_
        have hb5 : Below w.heap.size w ((w4.setCell ⟨w.heap.size, 0, none⟩ (.int .i64 (i : Int))).setCell ⟨w.heap.size, 1, none⟩ (.slice va vn vc)) := (hbt.setCell (p := ⟨w.heap.size, 0, none⟩) (Nat.le_refl _) _).setCell (p := ⟨w.heap.size, 1, none⟩) (Nat.le_refl _) _
        refine ⟨hb5.alloc hb5.size _, fun _ => ⟨g, by omega, ?_, _, rfl, ?_⟩, fun h => absurd HB.out h⟩
        · exact ((hL.set ⟨w.heap.size, 0, none⟩ _ (by show w.heap.size ≠ g; omega)).set ⟨w.heap.size, 1, none⟩ _ (by show w.heap.size ≠ g; omega)).past (Below.new _ _)
        · exact (((hown.set ⟨w.heap.size, 0, none⟩ _ hgw).set ⟨w.heap.size, 1, none⟩ _ hgw).past (Below.new _ _)).base (by omega)
    · have HB := Lib.hid (show ¬ (IsW x ∧ IsP p) from fun h => hp h.2)
      have HX := Lib.hid hx
      have HP := Lib.hid hp
      have SP := Lib.hid sp
      clear hx hp sp sx
      go_enter Tryd.func69, Tryd.ntmps69
      go_wp2_with (first | (go_at_call 61; (with_reducible refine (isWord_yes x _ HX.out).mono ?_); rintro e w1 ⟨rfl, a0⟩; have d1 := boxed_past q1 a0 lq1; have d2 := boxed_past q2 a0 lq2; have k3 := d1.cell; have k4 := d2.cell; have l3 := d1.lt; have l4 := d2.lt) | (go_at_call 62; (with_reducible refine (isPattern_no p SP.out HP.out _).mono ?_); rintro e w2 ⟨rfl, a1⟩) | (go_at_call 70; first | ((with_reducible refine (refuse_yes _ _).mono ?_); rintro e w3 ⟨rfl, rfl⟩) | ((with_reducible refine (refuse_no _ _).mono ?_); rintro e w3 ⟨rfl, rfl⟩)))
      exact ⟨rfl, (b0.then a0).then a1, fun h => absurd h HB.out, fun _ => rfl⟩
  · have HB := Lib.hid (show ¬ (IsW x ∧ IsP p) from fun h => hx h.1)
    have HX := Lib.hid hx
    have SX := Lib.hid sx
    clear hx sp sx
    go_enter Tryd.func69, Tryd.ntmps69
    go_wp2_with (first | (go_at_call 61; (with_reducible refine (isWord_not x _ SX.out HX.out).mono ?_); rintro e w1 ⟨rfl, a0⟩) | (go_at_call 70; first | ((with_reducible refine (refuse_yes _ _).mono ?_); rintro e w3 ⟨rfl, rfl⟩) | ((with_reducible refine (refuse_no _ _).mono ?_); rintro e w3 ⟨rfl, rfl⟩)))
    exact ⟨rfl, b0.then a0, fun h => absurd h HB.out, fun _ => rfl⟩

end Go.Proofs.YtfipbnognjepkaaDoor
