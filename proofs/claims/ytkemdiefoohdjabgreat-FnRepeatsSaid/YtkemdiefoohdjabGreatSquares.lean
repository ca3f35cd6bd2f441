/- The different squares of a word: the program. -/
import Derived.Test.YtkemdiefoohdjabGreatRepIter
import Derived.Test.YtkemdiefoohdjabGreatPairs
import Derived.Test.YtkemdiefoohdjabGreatWordSet
import Derived.Test.YtkemdiefoohdjabGreatIter
import Derived.Test.YtkemdiefoohdjabGreatSquaresS
import Derived.Test.YtkemdiefoohdjabGreatFactor
import Derived.Test.YtkemdiefoohdjabGreatTailIn
import Derived.StillTailTactics
namespace Go.Proofs.YtkemdiefoohdjabGreat
set_option linter.unusedVariables false
set_option linter.unusedSimpArgs false
open Go.RowKit Go.Shelf Go.Maps Go.Sort
attribute [local go_sem] Oper.semAt_some

theorem keyStr' {s : ByteArray} (h : s.size ≤ maxLen) : keyOf Tryz.prog 9 (.string s) = some (.string s.data.toList) := by
  have h2 : s.data.size ≤ maxLen := h
  simp [keyOf, Tryz.underlying9, mapKey, h]

set_option maxRecDepth 100000 in
set_option maxHeartbeats 4000000 in
theorem impl_SquaresOf_ok (x : ByteArray) (w : World) (h : IsW x) (hx : x.size ≤ 60) :
    CallsIn Fence.wide 6 Tryz.prog 12 #[.string x] w (RetS (insA ((reps (bl x) (eP 2 0)).map (sqW x))) 0 w) := by
  have H := Lib.hid h
  clear h
  have hmm := @run_makeMap Tryz.prog
  refine callsIn_of_wp_marks Tryz.func12 rfl trivial ?_ rfl
  simp only [Tryz.ntmps12, List.size_toArray, List.length_cons, List.length_nil, Nat.reduceAdd, Nat.reduceSub, Array.replicate_succ, Array.replicate_zero, List.push_toArray, List.append_toArray, List.nil_append, List.cons_append]
  gi_wp2_with (first | (refine ⟨trivial, ?_⟩; gi_at_call 27; refine (callsIn_wide.2 (isWord_yes x _ H.out)).mono ?_; rintro e w1 ⟨rfl, b1⟩; have x0 : Boxed w1 w.heap.size 9 (.string x) := (b1.block _ (by simp)).trans (Boxed.new w _ _); have c0 := ((x0.alloc (.map #[] 0)).alloc (.cells #[.map (some w1.heap.size)] 64)).cell) | (refine ⟨trivial, ?_⟩; gi_at_call 34; refine (repeatsIn_in Fence.wide _ trivial rfl _ _ _ _).mono ?_; rintro e w2 ⟨rfl, rfl⟩))
  clear c0
  have b1' : Below w.heap.size w w1 := (Below.new w _).then b1
  have hB0 : Below w.heap.size w (((((w1.alloc (.map #[] 0)).alloc (.cells #[.map (some w1.heap.size)] 64)).alloc (.cells #[.string x] 9)).alloc (.cells #[.int .i64 2] 2)).alloc (.cells #[.int .i64 0] 2)) := ((((b1'.alloc b1'.size _).alloc (by have := b1'.size; simp; omega) _).alloc (by have := b1'.size; simp; omega) _).alloc (by have := b1'.size; simp; omega) _).alloc (by have := b1'.size; simp; omega) _
  have hw1 : w.heap.size < w1.heap.size := x0.lt
  have p0 : Boxed (((((w1.alloc (.map #[] 0)).alloc (.cells #[.map (some w1.heap.size)] 64)).alloc (.cells #[.string x] 9)).alloc (.cells #[.int .i64 2] 2)).alloc (.cells #[.int .i64 0] 2)) (w1.heap.size + 1) 64 (.map (some w1.heap.size)) := by
    have := Boxed.new (w1.alloc (.map #[] 0)) 64 (.map (some w1.heap.size))
    rw [World.size_alloc] at this
    exact ((this.alloc _).alloc _).alloc _
  have q0 : Boxed (((((w1.alloc (.map #[] 0)).alloc (.cells #[.map (some w1.heap.size)] 64)).alloc (.cells #[.string x] 9)).alloc (.cells #[.int .i64 2] 2)).alloc (.cells #[.int .i64 0] 2)) w.heap.size 9 (.string x) := ((((x0.alloc _).alloc _).alloc _).alloc _).alloc _
  have tb := three_boxes ((w1.alloc (.map #[] 0)).alloc (.cells #[.map (some w1.heap.size)] 64)) x 2 0
  simp only [World.size_alloc] at tb
  obtain ⟨q1, q2, q3⟩ := tb
  have hm0 : (((((w1.alloc (.map #[] 0)).alloc (.cells #[.map (some w1.heap.size)] 64)).alloc (.cells #[.string x] 9)).alloc (.cells #[.int .i64 2] 2)).alloc (.cells #[.int .i64 0] 2)).ownsMap Tryz.prog 9 (plainElem (H := Unit) Tryz.prog 4) w1.heap.size 0 (setW (([] : List { p : Nat × Nat // p ∈ reps (bl x) (eP 2 0) }).map fun p => sqW x p.1)) := by
    rw [List.map_nil, setW_nil]
    exact ((((World.ownsMap_made w1 Tryz.prog 9 (plainElem (H := Unit) Tryz.prog 4)).alloc _).alloc _).alloc _).alloc _
  have hs0 : (((((w1.alloc (.map #[] 0)).alloc (.cells #[.map (some w1.heap.size)] 64)).alloc (.cells #[.string x] 9)).alloc (.cells #[.int .i64 2] 2)).alloc (.cells #[.int .i64 0] 2)).heap.size = w1.heap.size + 5 := by simp
  have HRL := reps_short (l := bl x) (eP 2 0) hx
  generalize hWX : (((((w1.alloc (.map #[] 0)).alloc (.cells #[.map (some w1.heap.size)] 64)).alloc (.cells #[.string x] 9)).alloc (.cells #[.int .i64 2] 2)).alloc (.cells #[.int .i64 0] 2)) = W0 at hB0 p0 q0 q1 q2 q3 hm0 hs0 ⊢
  clear hWX b1 b1' x0
  refine wpIn_rangeFunc_ownG rfl (by decide) (gf := 58) (lb := #[.pointer (some ⟨w1.heap.size + 1 + 1, 0, none⟩), .pointer (some ⟨w1.heap.size + 1 + 1 + 1, 0, none⟩), .pointer (some ⟨w1.heap.size + 1 + 1 + 1 + 1, 0, none⟩)]) rfl trivial (enters_of Tryz.func58 (by kernel_rfl) rfl)
    (repeatsS_stops Fence.wide 5 trivial rfl (by decide) (w1.heap.size + 1 + 1) (w1.heap.size + 1 + 1 + 1) (w1.heap.size + 1 + 1 + 1 + 1) w.heap.size x 2 0 hx (by omega) (by omega) (by omega) W0 q1 q2 q3) kpR_t (kpR_b (by omega) (by omega) (by omega) (by omega)) (Below.refl _ _) (fun _ => rfl)
    (fun pre W => ((Boxed W (w1.heap.size + 1) 64 (.map (some w1.heap.size)) ∧ W.ownsMap Tryz.prog 9 (plainElem (H := Unit) Tryz.prog 4) w1.heap.size pre.length (setW (pre.map fun p => sqW x p.1))) ∧ (Boxed W (w1.heap.size + 1 + 1) 9 (.string x) ∧ Boxed W (w1.heap.size + 1 + 1 + 1) 2 (.int .i64 ((2 : Nat) : Int)) ∧ Boxed W (w1.heap.size + 1 + 1 + 1 + 1) 2 (.int .i64 ((0 : Nat) : Int)) ∧ Boxed W w.heap.size 9 (.string x))) ∧ Below w.heap.size w W)
    (fun _ _ _ => False)
    (OwnFrom.and (OwnFrom.and (OwnFrom.and (Own.from (boxed_own _ _ _) _) (fun s A B row hs hg hr => hs.kept hg (fun e => by have := (hr _ e.symm).1; omega))) (OwnFrom.and (Own.from (boxed_own _ _ _) _) (OwnFrom.and (Own.from (boxed_own _ _ _) _) (OwnFrom.and (Own.from (boxed_own _ _ _) _) (Own.from (boxed_own _ _ _) _))))) (ownFrom_below (Nat.le_refl _) (by omega)))
    (fun _ _ _ _ _ hs _ _ => hs)
    ⟨⟨⟨p0, hm0⟩, q1, q2, q3, q0⟩, hB0⟩
    (fun p => { tmps := #[.string x, .pointer (some ⟨w.heap.size, 0, none⟩), .slice none 0 0, .int .i64 0, .pointer (some ⟨w1.heap.size + 1, 0, none⟩), .int .i64 (p.1.1 : Int), .int .i64 (p.1.2 : Int), .string x, .bool true, .bool false, .map (some w1.heap.size), .string x, .func (.func 58) #[] #[.pointer (some ⟨w1.heap.size + 1 + 1, 0, none⟩), .pointer (some ⟨w1.heap.size + 1 + 1 + 1, 0, none⟩), .pointer (some ⟨w1.heap.size + 1 + 1 + 1 + 1, 0, none⟩)], .int .i64 (p.1.1 : Int), .int .i64 (p.1.2 : Int), undef, undef, undef, undef, undef, undef, undef, undef, undef, undef, undef, undef], defers := [] }) ?assign ?body ?done ?stop
  case assign =>
    intro l p W K hK
    gi_wp2
    exact hK
  case body =>
    rintro l pre ⟨⟨i, q⟩, hpm⟩ W ⟨⟨⟨hv, hown⟩, r1, r2, r3, r0⟩, hB⟩ hlt
    have hpm1 := mem_reps.1 hpm
    have e0 : eP 2 0 q = q := by unfold eP; omega
    have m1 : 1 ≤ q := hpm1.1
    have m2 : i + 2 * q ≤ x.size := by
      have h2 := hpm1.2.1
      dsimp only at h2
      rw [e0, bl_len] at h2
      omega
    clear hpm1 e0
    have hc := hv.cell
    have hc0 := r0.cell
    have hbz := hB.size
    have hes : (x.extract i (i + 2 * q)).size ≤ 60 := by simp; omega
    have hkey := keyStr' (s := x.extract i (i + 2 * q)) (by unfold maxLen; omega)
    have hn4 : pre.length < maxLen := by unfold maxLen; omega
    have UPD := fun (W2 : World) (g : W.grownBy W2 none) => (hown.kept g (by simp)).update (string_keyed Tryz.underlying9) Tryz.underlying64 hn4 hkey (plainElem_bool (H := Unit) Tryz.underlying4 true)
    have hmx : Tryz.prog.follows .mixedOrders = true := by kernel_rfl
    have wq1 : IntKind.i64.wrap (2 * (q : Int)) = 2 * (q : Int) := IntWalk.i64_in _ (by omega)
    have wq2 : IntKind.i64.wrap ((i : Int) + 2 * (q : Int)) = (i : Int) + 2 * (q : Int) := IntWalk.i64_in _ (by omega)
    have hsl := fun W => slice_two x (i : Int) ((i : Int) + 2 * (q : Int)) i (i + 2 * q) rfl (by omega) (by omega) m2 W
    gi_wp2
    refine wpIn_region_out rfl hmx (by kernel_rfl) ?_
    refine wpAnyIn_take (i := 2) (v := .int .i64 (i : Int)) rfl rfl (by kernel_rfl) (by kernel_rfl) (by kernel_rfl) (fun _ _ _ h => h) ⟨Or.inl ⟨by rfl, (by intro w; go_simp)⟩, fun _ => rfl⟩ ?_
    refine wpAnyIn_take (i := 3) (v := .int .i64 (i : Int)) rfl rfl (by kernel_rfl) (by kernel_rfl) (by kernel_rfl) (fun _ _ _ h => h) ⟨Or.inl ⟨by rfl, (by intro w; go_simp)⟩, fun _ => rfl⟩ ?_
    refine wpAnyIn_take (i := 4) (v := .int .i64 (q : Int)) rfl rfl (by kernel_rfl) (by kernel_rfl) (by kernel_rfl) (fun _ _ _ h => h) ⟨Or.inl ⟨by rfl, (by intro w; go_simp)⟩, fun _ => rfl⟩ ?_
    refine wpAnyIn_take (i := 5) (v := .int .i64 (2 * (q : Int))) rfl rfl (by kernel_rfl) (by kernel_rfl) (by kernel_rfl) (fun _ _ _ h => h) ⟨Or.inl ⟨by rfl, (by intro w; go_simp)⟩, fun _ => rfl⟩ ?_
    refine wpAnyIn_take (i := 6) (v := .int .i64 ((i : Int) + 2 * (q : Int))) rfl rfl (by kernel_rfl) (by kernel_rfl) (by kernel_rfl) (fun _ _ _ h => h) ⟨Or.inl ⟨by rfl, (by intro w; go_simp)⟩, fun _ => rfl⟩ ?_
    refine wpAnyIn_ready (rs := [0, 1]) (by kernel_rfl) (by simp) ?_
    refine AllReadyIn.cons rfl (fun K hK => ?_) ?_
    · go_simp
      refine hK _ _ ?_
      clear hK K
      refine wpAnyIn_ready (rs := [1]) (by kernel_rfl) (by simp) ?_
      refine AllReadyIn.cons rfl (fun K hK => ?_) ?_
      · go_simp
        refine hK _ _ ?_
        clear hK K
        refine wpAnyIn_ready (rs := [7]) (by kernel_rfl) (by simp) ?_
        refine AllReadyIn.cons rfl (fun K hK => ?_) ?_
        · go_simp
          refine hK _ _ ?_
          clear hK K
          refine wpAnyIn_ready (rs := [8]) (by kernel_rfl) (by simp) ?_
          refine AllReadyIn.cons rfl (fun K hK => ?_) ?_
          · go_simp
            gi_wp2_with (refine ⟨trivial, ?_⟩; gi_at_call 38; refine (callsIn_wide.2 (strings_Clone _ _ (by simp; omega))).mono ?_; rintro e w2 ⟨rfl, b2⟩; have g2 : W.grownBy w2 none := ⟨b2.os, b2.tape, b2.output, b2.size, fun k hk _ => b2.block k hk⟩; have hc2 := (hv.kept g2 (by simp)).cell; obtain ⟨w3, hrun, hown1, hgrow1⟩ := UPD w2 g2)
            refine wpAnyIn_ready (rs := [9]) (by kernel_rfl) (by simp) ?_
            refine AllReadyIn.cons rfl (fun K hK => ?_) ?_
            · go_simp
              refine hK _ _ ?_
              clear hK K
              refine wpAnyIn_done (by kernel_rfl) ?_ _
              gi_wp2
              try go_bits
              have g2s := g2.size
              exact ⟨(KeepsFrom.of_grownBy g2 (fun j e => by cases e)).trans (KeepsFrom.of_grownBy hgrow1 (fun j e => by cases e; omega)),
                ⟨((Below.refl _ W).grown g2 hbz (fun k e => by cases e)).grown hgrow1 (by omega) (fun k e => by cases e; omega),
                  (hgrow1.block _ (by have := r1.lt; omega) (fun e => by have := Option.some.inj e; omega)).trans (g2.block _ r1.lt (by simp)),
                  (hgrow1.block _ (by have := r2.lt; omega) (fun e => by have := Option.some.inj e; omega)).trans (g2.block _ r2.lt (by simp)),
                  (hgrow1.block _ (by have := r3.lt; omega) (fun e => by have := Option.some.inj e; omega)).trans (g2.block _ r3.lt (by simp))⟩,
                ⟨⟨(hv.kept g2 (by simp)).kept hgrow1 (fun e => by have := Option.some.inj e; omega), by rw [List.map_append, List.map_cons, List.map_nil, setW_snoc, List.length_append]; exact hown1⟩,
                  (r1.kept g2 (by simp)).kept hgrow1 (fun e => by have := Option.some.inj e; omega), (r2.kept g2 (by simp)).kept hgrow1 (fun e => by have := Option.some.inj e; omega), (r3.kept g2 (by simp)).kept hgrow1 (fun e => by have := Option.some.inj e; omega), (r0.kept g2 (by simp)).kept hgrow1 (fun e => by have := Option.some.inj e; omega)⟩,
                (hB.grown g2 hbz (fun k e => by cases e)).grown hgrow1 (by omega) (fun k e => by cases e; omega)⟩
            exact AllReadyIn.nil
          exact AllReadyIn.nil
        exact AllReadyIn.nil
      exact AllReadyIn.nil
    refine AllReadyIn.cons rfl (fun K hK => ?_) ?_
    · go_simp
      refine hK _ _ ?_
      clear hK K
      refine wpAnyIn_ready (rs := [0, 7]) (by kernel_rfl) (by simp) ?_
      refine AllReadyIn.cons rfl (fun K hK => ?_) ?_
      · go_simp
        refine hK _ _ ?_
        clear hK K
        refine wpAnyIn_ready (rs := [7]) (by kernel_rfl) (by simp) ?_
        refine AllReadyIn.cons rfl (fun K hK => ?_) ?_
        · go_simp
          refine hK _ _ ?_
          clear hK K
          refine wpAnyIn_ready (rs := [8]) (by kernel_rfl) (by simp) ?_
          refine AllReadyIn.cons rfl (fun K hK => ?_) ?_
          · go_simp
            gi_wp2_with (refine ⟨trivial, ?_⟩; gi_at_call 38; refine (callsIn_wide.2 (strings_Clone _ _ (by simp; omega))).mono ?_; rintro e w2 ⟨rfl, b2⟩; have g2 : W.grownBy w2 none := ⟨b2.os, b2.tape, b2.output, b2.size, fun k hk _ => b2.block k hk⟩; have hc2 := (hv.kept g2 (by simp)).cell; obtain ⟨w3, hrun, hown1, hgrow1⟩ := UPD w2 g2)
            refine wpAnyIn_ready (rs := [9]) (by kernel_rfl) (by simp) ?_
            refine AllReadyIn.cons rfl (fun K hK => ?_) ?_
            · go_simp
              refine hK _ _ ?_
              clear hK K
              refine wpAnyIn_done (by kernel_rfl) ?_ _
              gi_wp2
              try go_bits
              have g2s := g2.size
              exact ⟨(KeepsFrom.of_grownBy g2 (fun j e => by cases e)).trans (KeepsFrom.of_grownBy hgrow1 (fun j e => by cases e; omega)),
                ⟨((Below.refl _ W).grown g2 hbz (fun k e => by cases e)).grown hgrow1 (by omega) (fun k e => by cases e; omega),
                  (hgrow1.block _ (by have := r1.lt; omega) (fun e => by have := Option.some.inj e; omega)).trans (g2.block _ r1.lt (by simp)),
                  (hgrow1.block _ (by have := r2.lt; omega) (fun e => by have := Option.some.inj e; omega)).trans (g2.block _ r2.lt (by simp)),
                  (hgrow1.block _ (by have := r3.lt; omega) (fun e => by have := Option.some.inj e; omega)).trans (g2.block _ r3.lt (by simp))⟩,
                ⟨⟨(hv.kept g2 (by simp)).kept hgrow1 (fun e => by have := Option.some.inj e; omega), by rw [List.map_append, List.map_cons, List.map_nil, setW_snoc, List.length_append]; exact hown1⟩,
                  (r1.kept g2 (by simp)).kept hgrow1 (fun e => by have := Option.some.inj e; omega), (r2.kept g2 (by simp)).kept hgrow1 (fun e => by have := Option.some.inj e; omega), (r3.kept g2 (by simp)).kept hgrow1 (fun e => by have := Option.some.inj e; omega), (r0.kept g2 (by simp)).kept hgrow1 (fun e => by have := Option.some.inj e; omega)⟩,
                (hB.grown g2 hbz (fun k e => by cases e)).grown hgrow1 (by omega) (fun k e => by cases e; omega)⟩
            exact AllReadyIn.nil
          exact AllReadyIn.nil
        exact AllReadyIn.nil
      refine AllReadyIn.cons rfl (fun K hK => ?_) ?_
      · go_simp
        refine hK _ _ ?_
        clear hK K
        refine wpAnyIn_ready (rs := [0, 8]) (by kernel_rfl) (by simp) ?_
        refine AllReadyIn.cons rfl (fun K hK => ?_) ?_
        · go_simp
          refine hK _ _ ?_
          clear hK K
          refine wpAnyIn_ready (rs := [8]) (by kernel_rfl) (by simp) ?_
          refine AllReadyIn.cons rfl (fun K hK => ?_) ?_
          · go_simp
            gi_wp2_with (refine ⟨trivial, ?_⟩; gi_at_call 38; refine (callsIn_wide.2 (strings_Clone _ _ (by simp; omega))).mono ?_; rintro e w2 ⟨rfl, b2⟩; have g2 : W.grownBy w2 none := ⟨b2.os, b2.tape, b2.output, b2.size, fun k hk _ => b2.block k hk⟩; have hc2 := (hv.kept g2 (by simp)).cell; obtain ⟨w3, hrun, hown1, hgrow1⟩ := UPD w2 g2)
            refine wpAnyIn_ready (rs := [9]) (by kernel_rfl) (by simp) ?_
            refine AllReadyIn.cons rfl (fun K hK => ?_) ?_
            · go_simp
              refine hK _ _ ?_
              clear hK K
              refine wpAnyIn_done (by kernel_rfl) ?_ _
              gi_wp2
              try go_bits
              have g2s := g2.size
              exact ⟨(KeepsFrom.of_grownBy g2 (fun j e => by cases e)).trans (KeepsFrom.of_grownBy hgrow1 (fun j e => by cases e; omega)),
                ⟨((Below.refl _ W).grown g2 hbz (fun k e => by cases e)).grown hgrow1 (by omega) (fun k e => by cases e; omega),
                  (hgrow1.block _ (by have := r1.lt; omega) (fun e => by have := Option.some.inj e; omega)).trans (g2.block _ r1.lt (by simp)),
                  (hgrow1.block _ (by have := r2.lt; omega) (fun e => by have := Option.some.inj e; omega)).trans (g2.block _ r2.lt (by simp)),
                  (hgrow1.block _ (by have := r3.lt; omega) (fun e => by have := Option.some.inj e; omega)).trans (g2.block _ r3.lt (by simp))⟩,
                ⟨⟨(hv.kept g2 (by simp)).kept hgrow1 (fun e => by have := Option.some.inj e; omega), by rw [List.map_append, List.map_cons, List.map_nil, setW_snoc, List.length_append]; exact hown1⟩,
                  (r1.kept g2 (by simp)).kept hgrow1 (fun e => by have := Option.some.inj e; omega), (r2.kept g2 (by simp)).kept hgrow1 (fun e => by have := Option.some.inj e; omega), (r3.kept g2 (by simp)).kept hgrow1 (fun e => by have := Option.some.inj e; omega), (r0.kept g2 (by simp)).kept hgrow1 (fun e => by have := Option.some.inj e; omega)⟩,
                (hB.grown g2 hbz (fun k e => by cases e)).grown hgrow1 (by omega) (fun k e => by cases e; omega)⟩
            exact AllReadyIn.nil
          exact AllReadyIn.nil
        refine AllReadyIn.cons rfl (fun K hK => ?_) ?_
        · go_simp
          gi_wp2_with (refine ⟨trivial, ?_⟩; gi_at_call 38; refine (callsIn_wide.2 (strings_Clone _ _ (by simp; omega))).mono ?_; rintro e w2 ⟨rfl, b2⟩; have g2 : W.grownBy w2 none := ⟨b2.os, b2.tape, b2.output, b2.size, fun k hk _ => b2.block k hk⟩; have hc2 := (hv.kept g2 (by simp)).cell; obtain ⟨w3, hrun, hown1, hgrow1⟩ := UPD w2 g2)
          refine wpAnyIn_ready (rs := [0]) (by kernel_rfl) (by simp) ?_
          refine AllReadyIn.cons rfl (fun K hK => ?_) ?_
          · go_simp
            refine hK _ _ ?_
            clear hK K
            refine wpAnyIn_ready (rs := [9]) (by kernel_rfl) (by simp) ?_
            refine AllReadyIn.cons rfl (fun K hK => ?_) ?_
            · go_simp
              refine hK _ _ ?_
              clear hK K
              refine wpAnyIn_done (by kernel_rfl) ?_ _
              gi_wp2
              try go_bits
              have g2s := g2.size
              exact ⟨(KeepsFrom.of_grownBy g2 (fun j e => by cases e)).trans (KeepsFrom.of_grownBy hgrow1 (fun j e => by cases e; omega)),
                ⟨((Below.refl _ W).grown g2 hbz (fun k e => by cases e)).grown hgrow1 (by omega) (fun k e => by cases e; omega),
                  (hgrow1.block _ (by have := r1.lt; omega) (fun e => by have := Option.some.inj e; omega)).trans (g2.block _ r1.lt (by simp)),
                  (hgrow1.block _ (by have := r2.lt; omega) (fun e => by have := Option.some.inj e; omega)).trans (g2.block _ r2.lt (by simp)),
                  (hgrow1.block _ (by have := r3.lt; omega) (fun e => by have := Option.some.inj e; omega)).trans (g2.block _ r3.lt (by simp))⟩,
                ⟨⟨(hv.kept g2 (by simp)).kept hgrow1 (fun e => by have := Option.some.inj e; omega), by rw [List.map_append, List.map_cons, List.map_nil, setW_snoc, List.length_append]; exact hown1⟩,
                  (r1.kept g2 (by simp)).kept hgrow1 (fun e => by have := Option.some.inj e; omega), (r2.kept g2 (by simp)).kept hgrow1 (fun e => by have := Option.some.inj e; omega), (r3.kept g2 (by simp)).kept hgrow1 (fun e => by have := Option.some.inj e; omega), (r0.kept g2 (by simp)).kept hgrow1 (fun e => by have := Option.some.inj e; omega)⟩,
                (hB.grown g2 hbz (fun k e => by cases e)).grown hgrow1 (by omega) (fun k e => by cases e; omega)⟩
            exact AllReadyIn.nil
          exact AllReadyIn.nil
        exact AllReadyIn.nil
      exact AllReadyIn.nil
    exact AllReadyIn.nil
  case done =>
    rintro D ys W hD hys ⟨⟨⟨hv, hown⟩, r1, r2, r3, r0⟩, hB⟩ hK
    have hyy : (ys.map fun p => sqW x p.1) = (reps (bl x) (eP 2 0)).map (sqW x) := by have h9 := congrArg (List.map (sqW x)) hys; rwa [List.map_map] at h9
    rw [hyy] at hown
    have hc := hv.cell
    have hsz := setW_size _ hown (string_keyed Tryz.underlying9) Tryz.underlying9
    rw [List.length_map] at hsz
    have hpm := setW_perm _ hown (string_keyed Tryz.underlying9) Tryz.underlying9
    have hso := setW_sorted ((reps (bl x) (eP 2 0)).map (sqW x))
    generalize (reps (bl x) (eP 2 0)).map (sqW x) = ws at *
    have cS := Tryz.slices_Sorted_keys_39_40 w1.heap.size _ _ _ W hown (by unfold maxLen; omega) (by omega)
    have CS := Lib.hid cS
    have HP := Lib.hid hpm
    have HO := Lib.hid hown
    have HS0 := Lib.hid hso
    have hDl := (Array.getElem?_eq_some_iff.1 hK).1
    clear cS hpm hown hso
    gi_wp2_with (first
      | (refine ⟨trivial, ?_⟩; gi_at_call 40; refine (Tryz.maps_Keys_40 _ _).mono ?_; rintro e w3 ⟨rfl, rfl⟩)
      | (refine ⟨trivial, ?_⟩; gi_at_call 39; refine CS.out.mono ?_; rintro e w4 ⟨v, ss, rfl, hS, hrow, hnil, hb⟩; have HR := Lib.hid hrow; have HS := Lib.hid hS; clear hrow hnil hS))
    have hK4 : w4.heap[D]? = some (.deferred (some [])) := (hb.block D (by simp; omega)).trans ((Below.heap_alloc W _ D hDl).trans hK)
    refine ⟨by simp, .inl ⟨_, _, rfl, run_takeDeferred hK4, ?_⟩⟩
    have hp2 := HS.out.trans HP.out.symm
    have e1 := HS0.out ss hp2
    have e2 : ss.length = (insA ws).length := by rw [hp2.length_eq, List.length_map]
    have hr2 := HR.out
    have hr3 : w4.ownsRow (W.alloc (.cells #[.map (some w1.heap.size)] 64)).heap.size 9 1 v (insA ws).length ((insA ws).map Value.string) := by
      rw [← e1, ← e2]; exact hr2
    have hbz := hB.size
    exact ⟨_, results_tmp2 rfl _ _ _, v, rfl, own_base (ownsRow_putObj hr3 _ hK4 rfl) (by simp; omega), ((hB.alloc hbz _).trans (hb.mono (by simp; omega))).trans (belowK_b (w := w) (Nat.le_refl _) w4 D _ _ (by omega) hK4 rfl rfl)⟩
  case stop =>
    rintro D c pre W _ _ h _
    exact h.elim

set_option maxRecDepth 100000 in
theorem impl_SquaresOf (x : ByteArray) (w : World) (sx : x.size ≤ maxLen) :
    Calls Tryz.prog 12 #[.string x] w (RetS (squaresR x).1 (squaresR x).2 w) := by
  by_cases h : IsW x
  · rw [squaresR_ok h]
    exact callsIn_wide.1 (impl_SquaresOf_ok x w h h.size)
  · rw [squaresR_bad h]
    have H := Lib.hid h
    clear h
    refine callsIn_wide.1 (?_ : CallsIn Fence.wide 6 _ _ _ _ _)
    refine callsIn_of_wp_marks Tryz.func12 rfl trivial ?_ rfl
    simp only [Tryz.ntmps12, List.size_toArray, List.length_cons, List.length_nil, Nat.reduceAdd, Nat.reduceSub, Array.replicate_succ, Array.replicate_zero, List.push_toArray, List.append_toArray, List.nil_append, List.cons_append]
    gi_wp2_with (refine ⟨trivial, ?_⟩; gi_at_call 27; refine (callsIn_wide.2 (isWord_not x _ sx H.out)).mono ?_; rintro e w1 ⟨rfl, b1⟩)
    exact ⟨_, results_tmp2 rfl _ _ _, _, rfl, OwnS.nil _ _, (Below.new w _).then b1⟩

end Go.Proofs.YtkemdiefoohdjabGreat
