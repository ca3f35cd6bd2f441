/- The first place of a pattern: the program. -/
import Derived.Test.YtfipbnognjepkaaDoorPlcI
import Derived.Test.YtfipbnognjepkaaDoorPlcT
namespace Go.Proofs.YtfipbnognjepkaaDoor
set_option linter.unusedVariables false
set_option linter.unusedSimpArgs false
open Go.RowKit

set_option maxRecDepth 100000 in
set_option maxHeartbeats 2000000 in
theorem door_fit_no (K : Nat) (caps : Array Value) (w : World) (c : Int) (hent : ∀ args W, (callFunc K args).run Tryd.prog W = .ok (.enter K args) W)
    (hw : Calls Tryd.prog K caps (doorG w) fun e w' => e = .panicked [refused c] ∧ Below (doorG w).heap.size (doorG w) w') :
    Calls Tryd.prog 68 #[.func (.func K) #[] caps] w fun e w' => e = .returned (.tuple #[.agg #[.int .i64 0, .slice none 0 0], .int .i64 c]) ∧ Below w.heap.size w w' := by
  have hmf : ∀ (fn : Fn) (first cap : Array Value) (w : World), (Instr.makeFunc fn first cap).run Tryd.prog w = .ok (.func fn first cap) w := fun _ _ _ _ => rfl
  have hB0 : Below w.heap.size w (doorG w) := (Below.new _ _).alloc (by simp) _
  have hs : w.heap.size ≤ (doorG w).heap.size := hB0.size
  go_enter_defers Tryd.func68, Tryd.ntmps68
  go_wp2_with (go_at_fn K; refine hw.mono ?_; rintro e w' ⟨rfl, hB⟩; obtain ⟨⟨hc0, hc1, hc2⟩, hz0, hz1, hz2⟩ := door_cellG hB)
  refine leaves_cons (f := 132) (args := #[.pointer (some ⟨w.heap.size + 1, 0, none⟩)]) (by simp) (by simp [go_sem]) ?_
  refine (catch_G_hit ⟨w.heap.size + 1, 0, none⟩ 0 c [] _ hc2 hz2).mono ?_
  rintro e u' w'' ⟨rfl, rfl, rfl⟩
  simp [Leaves, settle, results, Tryd.results68, go_sem, hc0, hc1, hc2, hz0, hz1, hz2]
  exact (hB0.trans (hB.mono hs)).setCell (p := ⟨w.heap.size + 1, 0, none⟩) (Nat.le_succ _) _

theorem three_pastF {W w w1 : World} {p q : Addr} {a b : Value} (b1 : Below W.heap.size W w1) (h : W.cell? p = some a ∧ W.cell? q = some b ∧ Below w.heap.size w W) (hp : p.block < w.heap.size) (hq : q.block < w.heap.size) :
    w1.cell? p = some a ∧ w1.cell? q = some b ∧ Below w.heap.size w w1 := by
  have hs := h.2.2.size
  exact ⟨by rw [b1.cell (by omega)]; exact h.1, by rw [b1.cell (by omega)]; exact h.2.1, h.2.2.then b1⟩
theorem fit_cells (w1 : World) (a v : Value) : (w1.alloc (.cells #[a, v] 78)).cell? ⟨w1.heap.size, 0, none⟩ = some a ∧ (w1.alloc (.cells #[a, v] 78)).cell? ⟨w1.heap.size, 1, none⟩ = some v ∧ w1.heap.size < (w1.alloc (.cells #[a, v] 78)).heap.size := by
  refine ⟨?_, ?_, by simp⟩ <;> simp [go_sem]

set_option maxRecDepth 100000 in
set_option maxHeartbeats 2000000 in
theorem place_no (x p : ByteArray) (c : Int) (w : World)
    (hd : Calls Tryd.prog 68 #[.func (.func 69) #[] #[.pointer (some ⟨w.heap.size, 0, none⟩), .pointer (some ⟨w.heap.size + 1, 0, none⟩)]] ((w.alloc (.cells #[.string x] 9)).alloc (.cells #[.string p] 9)) fun e w' => e = .returned (.tuple #[.agg #[.int .i64 0, .slice none 0 0], .int .i64 c]) ∧ Below ((w.alloc (.cells #[.string x] 9)).alloc (.cells #[.string p] 9)).heap.size ((w.alloc (.cells #[.string x] 9)).alloc (.cells #[.string p] 9)) w') :
    Calls Tryd.prog 14 #[.string x, .string p] w (RetP (0, [], c) w) := by
  have hmf : ∀ (fn : Fn) (first cap : Array Value) (w : World), (Instr.makeFunc fn first cap).run Tryd.prog w = .ok (.func fn first cap) w := fun _ _ _ _ => rfl
  have hmo : Tryd.prog.follows .mixedOrders = true := by kernel_rfl
  have hB : Below w.heap.size w ((w.alloc (.cells #[.string x] 9)).alloc (.cells #[.string p] 9)) := (Below.new _ _).alloc (by simp) _
  have HD := Lib.hid hd
  clear hd
  go_enter Tryd.func14, Tryd.ntmps14
  go_wp2_with (go_at_call 68; refine HD.out.mono ?_; rintro e w1 ⟨rfl, b1⟩)
  obtain ⟨q0, q1, ql⟩ := fit_cells w1 (.int .i64 0) (.slice none 0 0)
  have B9 : Below w.heap.size w (w1.alloc (.cells #[.int .i64 0, .slice none 0 0] 78)) := (hB.then b1).alloc (hB.then b1).size _
  generalize w1.alloc (.cells #[.int .i64 0, .slice none 0 0] 78) = W9 at *
  generalize w1.heap.size = G at *
  go_region_held3 (fun w' => w'.cell? ⟨G, 0, none⟩ = some (.int .i64 0) ∧ w'.cell? ⟨G, 1, none⟩ = some (.slice none 0 0) ∧ Below W9.heap.size W9 w') (first | assumption | exact ⟨q0, q1, Below.refl _ _⟩ | exact ⟨q0, q1, (Below.refl _ _).drew⟩ | (refine ⟨?_, ?_, ?_⟩ <;> first | assumption | exact Below.drew (by assumption) | go_keep)) (first | (go_at_call 72; refine (texts_nil _ _).mono ?_; rintro e w5 ⟨rfl, b5⟩; have kp := three_pastF b5 (by first | assumption | exact ⟨by assumption, by assumption, by assumption⟩ | exact ⟨q0, q1, Below.refl _ _⟩ | exact ⟨q0, q1, (Below.refl _ _).drew⟩) ql ql))
  all_goals (try go_wp2_with fail)
  all_goals (
    obtain ⟨z0, z1, z2⟩ := (by assumption : (_ ∧ _ ∧ Below W9.heap.size W9 _))
    first
      | (refine bodyPost_ret (v := .tuple #[.int .i64 0, .slice none 0 0, .int .i64 c]) ?_ rfl ⟨_, rfl, OwnS.nil _ _, B9.then z2⟩; simp [results, Tryd.results14, go_sem]; done)
      | (trace_state; sorry))

set_option maxRecDepth 100000 in
set_option maxHeartbeats 2000000 in
theorem place_yes (x p : ByteArray) (i : Nat) (X : List UInt8) (L : List (List UInt8)) (w : World) (hX : X.length ≤ 60) (h3 : L.length ≤ 3)
    (hd : Calls Tryd.prog 68 #[.func (.func 69) #[] #[.pointer (some ⟨w.heap.size, 0, none⟩), .pointer (some ⟨w.heap.size + 1, 0, none⟩)]] ((w.alloc (.cells #[.string x] 9)).alloc (.cells #[.string p] 9)) fun e w' => ∃ g v B, e = .returned (.tuple #[.agg #[.int .i64 (i : Int), v], .int .i64 0]) ∧ OwnF w' B g X v L ∧ LettersAt w' g X ∧ Below ((w.alloc (.cells #[.string x] 9)).alloc (.cells #[.string p] 9)).heap.size ((w.alloc (.cells #[.string x] 9)).alloc (.cells #[.string p] 9)) w') :
    Calls Tryd.prog 14 #[.string x, .string p] w (RetP ((i : Int), L.map bt, 0) w) := by
  have hmf : ∀ (fn : Fn) (first cap : Array Value) (w : World), (Instr.makeFunc fn first cap).run Tryd.prog w = .ok (.func fn first cap) w := fun _ _ _ _ => rfl
  have hmo : Tryd.prog.follows .mixedOrders = true := by kernel_rfl
  have hB : Below w.heap.size w ((w.alloc (.cells #[.string x] 9)).alloc (.cells #[.string p] 9)) := (Below.new _ _).alloc (by simp) _
  have HD := Lib.hid hd
  clear hd
  go_enter Tryd.func14, Tryd.ntmps14
  go_wp2_with (go_at_call 68; refine HD.out.mono ?_; rintro e w1 ⟨g, v, Bv, rfl, hown, hlet, b1⟩; obtain ⟨va, vn', vc, rfl⟩ := hown.shape)
  obtain ⟨q0, q1, ql⟩ := fit_cells w1 (.int .i64 (i : Int)) (.slice va vn' vc)
  have B9 : Below w.heap.size w (w1.alloc (.cells #[.int .i64 (i : Int), .slice va vn' vc] 78)) := (hB.then b1).alloc (hB.then b1).size _
  have HO := Lib.hid (hown.past (Below.new w1 (.cells #[.int .i64 (i : Int), .slice va vn' vc] 78)))
  have HL := Lib.hid (hlet.past (Below.new w1 (.cells #[.int .i64 (i : Int), .slice va vn' vc] 78)))
  clear hown hlet
  generalize w1.alloc (.cells #[.int .i64 (i : Int), .slice va vn' vc] 78) = W9 at *
  generalize w1.heap.size = G at *
  generalize (i : Int) = ii at *
  go_region_held3 (fun w' => w'.cell? ⟨G, 0, none⟩ = some (.int .i64 ii) ∧ w'.cell? ⟨G, 1, none⟩ = some (.slice va vn' vc) ∧ Below W9.heap.size W9 w') (first | assumption | exact ⟨q0, q1, Below.refl _ _⟩ | exact ⟨q0, q1, (Below.refl _ _).drew⟩ | (refine ⟨?_, ?_, ?_⟩ <;> first | assumption | exact Below.drew (by assumption) | go_keep)) (first | (go_at_call 72; refine (texts_any _ _ _ _ _ _ _ (HO.out.past (by first | assumption | exact Below.refl _ _ | exact (Below.refl _ _).drew)) (HL.out.past (by first | assumption | exact Below.refl _ _ | exact (Below.refl _ _).drew)) hX h3).mono ?_; rintro e w5 ⟨u, rfl, hu, b5⟩; have kp := three_pastF b5 (by first | assumption | exact ⟨by assumption, by assumption, by assumption⟩ | exact ⟨q0, q1, Below.refl _ _⟩ | exact ⟨q0, q1, (Below.refl _ _).drew⟩) ql ql))
  all_goals (try go_wp2_with fail)
  all_goals (
    obtain ⟨z0, z1, z2⟩ := (by assumption : (_ ∧ _ ∧ Below W9.heap.size W9 _))
    first
      | (refine bodyPost_ret (v := .tuple #[.int .i64 ii, u, .int .i64 0]) ?_ rfl ⟨_, rfl, hu.base (by have := B9.size; have := (show Below W9.heap.size W9 _ by assumption).size; simp at *; omega), B9.then z2⟩; simp [results, Tryd.results14, go_sem]; done)
      | (trace_state; sorry))

theorem impl_FirstPlace (x p : ByteArray) (w : World) (sx : x.size ≤ maxLen) (sp : p.size ≤ maxLen) :
    Calls Tryd.prog 14 #[.string x, .string p] w (RetP (placeR x p) w) := by
  have hent := enters_of Tryd.func69 (by kernel_rfl) rfl
  have hz : (w.alloc (.cells #[.string x] 9)).heap.size = w.heap.size + 1 := by simp
  have c1 : Boxed (doorG ((w.alloc (.cells #[.string x] 9)).alloc (.cells #[.string p] 9))) w.heap.size 9 (.string x) := (((Boxed.new w _ _).alloc _).alloc _).alloc _
  have c2 : Boxed (doorG ((w.alloc (.cells #[.string x] 9)).alloc (.cells #[.string p] 9))) (w.heap.size + 1) 9 (.string p) := by
    have := ((Boxed.new (w.alloc (.cells #[.string x] 9)) 9 (.string p)).alloc (.cells #[.int .i64 0, .slice none 0 0] 78)).alloc (.cells #[.int .i64 0] 2)
    rw [hz] at this
    exact this
  have hc := FirstPlace1_any w.heap.size (w.heap.size + 1) x p _ c1 c2 sx sp
  by_cases h : IsW x ∧ IsP p
  · have hx60 : (bl x).length ≤ 60 := by rw [bl_len]; exact h.1.size
    have hd := door_fit 69 #[.pointer (some ⟨w.heap.size, 0, none⟩), .pointer (some ⟨w.heap.size + 1, 0, none⟩)] ((w.alloc (.cells #[.string x] 9)).alloc (.cells #[.string p] 9)) (bl x) (vsOf (bl p)) (pff (bl x) (bl p)) 4 hent (hc.mono fun e w' ⟨b, h1, _⟩ => by
      obtain ⟨g, hg, hl, he⟩ := h1 h
      exact ⟨g, hg, he, hl, b⟩)
    cases hp : pff (bl x) (bl p) with
    | none =>
      rw [placeR_none h hp]
      rw [hp] at hd
      exact place_no x p 4 w (hd.mono fun e w' ⟨g, _, he, _, b⟩ => ⟨he, b⟩)
    | some iW =>
      obtain ⟨i, W⟩ := iW
      rw [placeR_some h hp]
      rw [hp] at hd
      have e : valsB (vsOf (bl p)) W = ((vsOf (bl p)).map W).map bt := by unfold valsB; rw [List.map_map]; rfl
      rw [e]
      refine place_yes x p i (bl x) ((vsOf (bl p)).map W) w hx60 (by rw [List.length_map]; exact vsOf_len _) (hd.mono fun e w' ⟨g, _, he, hl, b⟩ => ?_)
      obtain ⟨v, rfl, ho⟩ := he
      exact ⟨g, v, _, rfl, ho, hl, b⟩
  · rw [placeR_bad h]
    exact place_no x p 1 w (door_fit_no _ _ _ 1 hent (hc.mono fun e w' ⟨b, _, h2⟩ => ⟨h2 h, b⟩))

end Go.Proofs.YtfipbnognjepkaaDoor
