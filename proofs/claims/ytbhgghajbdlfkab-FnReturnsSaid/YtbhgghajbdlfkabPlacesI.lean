/- The places of a factor: the program. -/
import Derived.Test.YtbhgghajbdlfkabFacIter
import Derived.Test.YtbhgghajbdlfkabPlacesS
namespace Go.Proofs.Ytbhgghajbdlfkab
set_option linter.unusedVariables false
set_option linter.unusedSimpArgs false
open Go.RowKit Go.Shelf
attribute [local go_sem] Oper.semAt_some

set_option maxRecDepth 100000 in
set_option maxHeartbeats 2000000 in
theorem impl_PlacesOf_ok (x u : ByteArray) (w : World) (h : IsW x ∧ IsW u) (hx : x.size ≤ 60) (hu : u.size ≤ 60) :
    CallsIn Fence.wide 4 Try.prog 33 #[.string x, .string u] w (RetI (posOf x u (List.range (x.size + 1 - u.size))) 0 w) := by
  have H := Lib.hid h
  clear h
  obtain ⟨i0, hi, hz0, hz1, hz2⟩ := info_parts infoI64
  refine callsIn_of_wp_marks Try.func33 rfl trivial ?_ rfl
  simp only [Try.ntmps33, List.size_toArray, List.length_cons, List.length_nil, Nat.reduceAdd, Nat.reduceSub, Array.replicate_succ, Array.replicate_zero, List.push_toArray, List.append_toArray, List.nil_append, List.cons_append]
  gi_wp2_with (first | (refine ⟨trivial, ?_⟩; gi_at_call 49; refine (callsIn_wide.2 (areWords2_yes _ x u _ (by simp) (by simp [go_sem]) (by simp [go_sem]) H.out.1 H.out.2)).mono ?_; rintro e w1 ⟨rfl, b1⟩; have hbu : Boxed w1 w.heap.size 9 (.string u) := (b1.block w.heap.size (by simp; omega)).trans ((Boxed.new w 9 (.string u)).alloc _); have hbc := (hbu.alloc (.cells #[.slice none 0 0] 41)).cell) | (refine ⟨trivial, ?_⟩; gi_at_call 76; refine (factorsIn_in Fence.wide _ trivial rfl _ _ _).mono ?_; rintro e w2 ⟨rfl, rfl⟩))
  have hw1 : w.heap.size + 2 ≤ w1.heap.size := by have := b1.size; simp at this; omega
  have hB0 : Below w.heap.size w (((w1.alloc (.cells #[.slice none 0 0] 41)).alloc (.cells #[.string x] 9)).alloc (.cells #[.int .i64 (u.size : Int)] 2)) :=
    ((((((Below.refl w.heap.size w).alloc (Nat.le_refl _) _).alloc (by simp) _).trans (b1.mono (by simp; omega))).alloc (by omega) _).alloc (by simp; omega) _).alloc (by simp; omega) _
  have p0 : Boxed (((w1.alloc (.cells #[.slice none 0 0] 41)).alloc (.cells #[.string x] 9)).alloc (.cells #[.int .i64 (u.size : Int)] 2)) w1.heap.size 41 (.slice none 0 0) := ((Boxed.new w1 _ _).alloc _).alloc _
  have q2 : Boxed (((w1.alloc (.cells #[.slice none 0 0] 41)).alloc (.cells #[.string x] 9)).alloc (.cells #[.int .i64 (u.size : Int)] 2)) (w1.heap.size + 1) 9 (.string x) := by
    have := Boxed.new (w1.alloc (.cells #[.slice none 0 0] 41)) 9 (.string x)
    rw [World.size_alloc] at this
    exact this.alloc _
  have q1 : Boxed (((w1.alloc (.cells #[.slice none 0 0] 41)).alloc (.cells #[.string x] 9)).alloc (.cells #[.int .i64 (u.size : Int)] 2)) (w1.heap.size + 1 + 1) 2 (.int .i64 (u.size : Int)) := by
    have := Boxed.new ((w1.alloc (.cells #[.slice none 0 0] 41)).alloc (.cells #[.string x] 9)) 2 (.int .i64 (u.size : Int))
    simp only [World.size_alloc] at this
    exact this
  have q3 : Boxed (((w1.alloc (.cells #[.slice none 0 0] 41)).alloc (.cells #[.string x] 9)).alloc (.cells #[.int .i64 (u.size : Int)] 2)) w.heap.size 9 (.string u) := ((hbu.alloc _).alloc _).alloc _
  have hs0 : (((w1.alloc (.cells #[.slice none 0 0] 41)).alloc (.cells #[.string x] 9)).alloc (.cells #[.int .i64 (u.size : Int)] 2)).heap.size = w1.heap.size + 3 := by simp
  generalize hW0 : (((w1.alloc (.cells #[.slice none 0 0] 41)).alloc (.cells #[.string x] 9)).alloc (.cells #[.int .i64 (u.size : Int)] 2)) = W0 at hB0 p0 q1 q2 q3 hs0 ⊢
  clear hW0 hbc hbu b1
  refine wpIn_rangeFunc_ownG rfl (by decide) (gf := 112) (lb := #[.pointer (some ⟨w1.heap.size + 1 + 1, 0, none⟩), .pointer (some ⟨w1.heap.size + 1, 0, none⟩)]) rfl trivial (enters_of Try.func112 (by kernel_rfl) rfl)
    (factors_stops Fence.wide 3 trivial rfl (by decide) (w1.heap.size + 1 + 1) (w1.heap.size + 1) w.heap.size x u.size hx hu W0 q1 q2) kpF_t (kpF_b (by omega) (by omega) (by omega)) (Below.refl _ _) (fun _ => rfl)
    (fun pre W => (((∃ v, Boxed W w1.heap.size 41 v ∧ W.ownsRow W0.heap.size 2 1 v (posOf x u pre).length ((posOf x u pre).map (Value.int .i64)) ∧ True) ∧ Boxed W w.heap.size 9 (.string u)) ∧ (Boxed W (w1.heap.size + 1 + 1) 2 (.int .i64 (u.size : Int)) ∧ Boxed W (w1.heap.size + 1) 9 (.string x))) ∧ Below w.heap.size w W)
    (fun _ _ _ => False)
    (OwnFrom.and (OwnFrom.and (OwnFrom.and (Own.from (holdsRow_own W0.heap.size w1.heap.size 41 2 1 (fun pre => (posOf x u pre).length) (fun pre => (posOf x u pre).map (Value.int .i64)) (fun pre v => True)) _) (Own.from (boxed_own _ _ _) _)) (OwnFrom.and (Own.from (boxed_own _ _ _) _) (Own.from (boxed_own _ _ _) _))) (ownFrom_below (Nat.le_refl _) (by omega)))
    (fun _ _ _ _ _ hs _ _ => hs)
    ⟨⟨⟨⟨_, p0, World.ownsRow_nil _ _ _ _, trivial⟩, q3⟩, q1, q2⟩, hB0⟩
    (fun i => { tmps := #[.string x, .string u, undef, .pointer (some ⟨w.heap.size, 0, none⟩), .slice none 0 0, .int .i64 0, .pointer (some ⟨w1.heap.size, 0, none⟩), .int .i64 (i : Int), .string (x.extract i (i + u.size)), .string x, .string u, .slice (some ⟨w.heap.size + 1, 0, none⟩) 2 2, .bool true, .bool false, .string x, .string u, .int .i64 (u.size : Int), .func (.func 112) #[] #[.pointer (some ⟨w1.heap.size + 1 + 1, 0, none⟩), .pointer (some ⟨w1.heap.size + 1, 0, none⟩)], .int .i64 (i : Int), .string (x.extract i (i + u.size)), undef, undef, undef, undef, undef, undef, undef, undef], defers := [] }) ?assign ?body ?done ?stop
  case assign =>
    intro l i W K hK
    gi_wp2
    exact hK
  case body =>
    rintro l pre i W ⟨⟨⟨⟨v, hv, hrow, _⟩, r3⟩, r1, r2⟩, hB⟩ hlt
    have hc := hv.cell
    have c3 := r3.cell
    have hpl := posOf_len x u pre
    have hbz := hB.size
    have hz := hrow.lt
    have hWz : W0.heap.size ≤ W.heap.size := by have := r1.lt; omega
    by_cases he : x.extract i (i + u.size) = u
    · have hsn := posOf_hit x u pre he
      have hq := teq_yes he
      gi_wp2_with (gi_at_builtin; refine wpListIn_append_own _ rfl _ _ 41 rfl W0.heap.size 2 i0 (.int .i64 0) 1 8 Try.underlying41 hi hz0 hz1 hz2 rfl (by decide) _ _ _ rfl (hrow.alloc _) ⟨W.heap.size, 0, none⟩ 1 1 [.int .i64 (i : Int)] rfl rfl (cell_one_new _ _ _) (by simp [Value.oneCell']) (by unfold maxLen; omega) (by omega) (by simp; omega) ?_; intro v' w2 hown' hgrow _; obtain ⟨g', cap', rfl⟩ := ownsRow_succ hown'; obtain ⟨hv1, hv2, hr2, hk2, hb2, hfr⟩ := appended2 (n₀ := w.heap.size) hv (by decide) hrow (by omega) hWz (by omega) (by omega) hown' hgrow; have hc1 := hv1.cell; have hf1 := hv1.frozen)
      refine ⟨hk2.from _, ⟨hb2, hfr _ (by omega) (by omega), hfr _ (by omega) (by omega)⟩, ⟨⟨⟨_, hv2, ?_, trivial⟩, (hfr _ (by omega) (by omega)).trans r3⟩, (hfr _ (by omega) (by omega)).trans r1, (hfr _ (by omega) (by omega)).trans r2⟩, hB.trans hb2⟩
      rw [hsn, List.length_append, ← map_snoc]
      exact hr2
    · have hsn := posOf_miss x u pre he
      have hq := teq_no he
      gi_wp2
      exact ⟨KeepsFrom.refl _ _, ⟨Below.refl _ _, rfl, rfl⟩, ⟨⟨⟨v, hv, by rw [hsn]; exact hrow, trivial⟩, r3⟩, r1, r2⟩, hB⟩
  case done =>
    rintro D ys W hD rfl ⟨⟨⟨⟨v, hv, hrow, _⟩, r3⟩, r1, r2⟩, hB⟩ hK
    have hc := hv.cell
    gi_wp2
    refine ⟨by simp, .inl ⟨_, _, rfl, run_takeDeferred hK, ?_⟩⟩
    exact ⟨_, results_tmp2 rfl _ _ _, v, rfl, own_base (ownsRow_putObj hrow _ hK rfl) (by omega), hB.trans (belowK_b (w := w) (Nat.le_refl _) W D _ _ (by omega) hK rfl rfl)⟩
  case stop =>
    rintro D c pre W _ _ h _
    exact h.elim

set_option maxRecDepth 100000 in
theorem impl_PlacesOf_bad (x u : ByteArray) (w : World) (sx : x.size ≤ maxLen) (su : u.size ≤ maxLen) (h : ¬ (IsW x ∧ IsW u)) :
    CallsIn Fence.wide 4 Try.prog 33 #[.string x, .string u] w (RetI [] 1 w) := by
  have H := Lib.hid h
  clear h
  refine callsIn_of_wp_marks Try.func33 rfl trivial ?_ rfl
  simp only [Try.ntmps33, List.size_toArray, List.length_cons, List.length_nil, Nat.reduceAdd, Nat.reduceSub, Array.replicate_succ, Array.replicate_zero, List.push_toArray, List.append_toArray, List.nil_append, List.cons_append]
  gi_wp2_with (refine ⟨trivial, ?_⟩; gi_at_call 49; refine (callsIn_wide.2 (areWords2_no _ x u _ (by simp) (by simp [go_sem]) (by simp [go_sem]) sx su H.out)).mono ?_; rintro e w1 ⟨rfl, b1⟩)
  have hB1 : Below w.heap.size w w1 := ((((Below.refl w.heap.size w).alloc (Nat.le_refl _) _).alloc (by simp) _).trans (b1.mono (by simp; omega)))
  exact ⟨_, results_tmp2 rfl _ _ _, _, rfl, OwnI.nil _ _, hB1⟩

theorem impl_PlacesOf (x u : ByteArray) (w : World) (sx : x.size ≤ maxLen) (su : u.size ≤ maxLen) :
    Calls Try.prog 33 #[.string x, .string u] w (RetI (placesR x u).1 (placesR x u).2 w) := by
  by_cases h : IsW x ∧ IsW u
  · rw [placesR_ok h]
    exact callsIn_wide.1 (impl_PlacesOf_ok x u w h h.1.size h.2.size)
  · rw [placesR_bad h]
    exact callsIn_wide.1 (impl_PlacesOf_bad x u w sx su h)

end Go.Proofs.Ytbhgghajbdlfkab
