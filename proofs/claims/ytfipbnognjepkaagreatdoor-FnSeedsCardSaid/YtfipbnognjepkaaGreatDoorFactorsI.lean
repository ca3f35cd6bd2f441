/- The factors of a length: the program. -/
import Derived.Test.YtfipbnognjepkaaGreatDoorFacIter
import Derived.Test.YtfipbnognjepkaaGreatDoorFactorsS
import Derived.Test.YtfipbnognjepkaaGreatDoorFacMap
import Derived.Test.YtfipbnognjepkaaGreatDoorIter
namespace Go.Proofs.YtfipbnognjepkaaGreatDoor
set_option linter.unusedVariables false
set_option linter.unusedSimpArgs false
open Go.RowKit Go.Shelf Go.Maps Go.Sort
attribute [local go_sem] Oper.semAt_some

theorem keyStr {s : ByteArray} (h : s.size ≤ maxLen) : keyOf Tryz.prog 9 (.string s) = some (.string s.data.toList) := by
  have h2 : s.data.size ≤ maxLen := h
  simp [keyOf, Tryz.underlying9, mapKey, h]

set_option maxRecDepth 100000 in
set_option maxHeartbeats 2000000 in
theorem impl_FactorsOf_ok (x : ByteArray) (m : Nat) (w : World) (h : IsW x) (hx : x.size ≤ 60) (hm : m ≤ 60) :
    CallsIn Fence.wide 6 Tryz.prog 105 #[.string x, .int .i64 (m : Int)] w (RetS (facK x m (x.size + 1 - m)) 0 w) := by
  have H := Lib.hid h
  clear h
  have hmm := @run_makeMap Tryz.prog
  refine callsIn_of_wp_marks Tryz.func105 rfl trivial ?_ rfl
  simp only [Tryz.ntmps105, List.size_toArray, List.length_cons, List.length_nil, Nat.reduceAdd, Nat.reduceSub, Array.replicate_succ, Array.replicate_zero, List.push_toArray, List.append_toArray, List.nil_append, List.cons_append]
  gi_wp2_with (first | (refine ⟨trivial, ?_⟩; gi_at_call 77; refine (callsIn_wide.2 (isWord_yes x _ H.out)).mono ?_; rintro e w1 ⟨rfl, b1⟩) | (refine ⟨trivial, ?_⟩; gi_at_call 144; refine (factorsIn_in Fence.wide _ trivial rfl _ _ _).mono ?_; rintro e w2 ⟨rfl, rfl⟩))
  have hB0 : Below w.heap.size w ((((w1.alloc (.map #[] 0)).alloc (.cells #[.map (some w1.heap.size)] 155)).alloc (.cells #[.string x] 9)).alloc (.cells #[.int .i64 (m : Int)] 2)) := (((b1.alloc b1.size _).alloc (by have := b1.size; simp; omega) _).alloc (by have := b1.size; simp; omega) _).alloc (by have := b1.size; simp; omega) _
  have hw1 := b1.size
  have p0 : Boxed ((((w1.alloc (.map #[] 0)).alloc (.cells #[.map (some w1.heap.size)] 155)).alloc (.cells #[.string x] 9)).alloc (.cells #[.int .i64 (m : Int)] 2)) (w1.heap.size + 1) 155 (.map (some w1.heap.size)) := by
    have := Boxed.new (w1.alloc (.map #[] 0)) 155 (.map (some w1.heap.size))
    rw [World.size_alloc] at this
    exact (this.alloc _).alloc _
  have q2 : Boxed ((((w1.alloc (.map #[] 0)).alloc (.cells #[.map (some w1.heap.size)] 155)).alloc (.cells #[.string x] 9)).alloc (.cells #[.int .i64 (m : Int)] 2)) (w1.heap.size + 1 + 1) 9 (.string x) := by
    have := Boxed.new ((w1.alloc (.map #[] 0)).alloc (.cells #[.map (some w1.heap.size)] 155)) 9 (.string x)
    simp only [World.size_alloc] at this
    exact this.alloc _
  have q1 : Boxed ((((w1.alloc (.map #[] 0)).alloc (.cells #[.map (some w1.heap.size)] 155)).alloc (.cells #[.string x] 9)).alloc (.cells #[.int .i64 (m : Int)] 2)) (w1.heap.size + 1 + 1 + 1) 2 (.int .i64 (m : Int)) := by
    have := Boxed.new (((w1.alloc (.map #[] 0)).alloc (.cells #[.map (some w1.heap.size)] 155)).alloc (.cells #[.string x] 9)) 2 (.int .i64 (m : Int))
    simp only [World.size_alloc] at this
    exact this
  have hm0 : ((((w1.alloc (.map #[] 0)).alloc (.cells #[.map (some w1.heap.size)] 155)).alloc (.cells #[.string x] 9)).alloc (.cells #[.int .i64 (m : Int)] 2)).ownsMap Tryz.prog 9 (plainElem (H := Unit) Tryz.prog 4) w1.heap.size 0 (setF x m []) := (((World.ownsMap_made w1 Tryz.prog 9 (plainElem (H := Unit) Tryz.prog 4)).alloc _).alloc _).alloc _
  have hs0 : ((((w1.alloc (.map #[] 0)).alloc (.cells #[.map (some w1.heap.size)] 155)).alloc (.cells #[.string x] 9)).alloc (.cells #[.int .i64 (m : Int)] 2)).heap.size = w1.heap.size + 4 := by simp
  generalize hWX : ((((w1.alloc (.map #[] 0)).alloc (.cells #[.map (some w1.heap.size)] 155)).alloc (.cells #[.string x] 9)).alloc (.cells #[.int .i64 (m : Int)] 2)) = W0 at hB0 p0 q1 q2 hm0 hs0 ⊢
  clear hWX b1
  refine wpIn_rangeFunc_ownG rfl (by decide) (gf := 167) (lb := #[.pointer (some ⟨w1.heap.size + 1 + 1 + 1, 0, none⟩), .pointer (some ⟨w1.heap.size + 1 + 1, 0, none⟩)]) rfl trivial (enters_of Tryz.func167 (by kernel_rfl) rfl)
    (factors_stops Fence.wide 5 trivial rfl (by decide) (w1.heap.size + 1 + 1 + 1) (w1.heap.size + 1 + 1) w.heap.size x m hx hm W0 q1 q2) kpF_t (kpF_b (by omega) (by omega) (by omega)) (Below.refl _ _) (fun _ => rfl)
    (fun pre W => ((Boxed W (w1.heap.size + 1) 155 (.map (some w1.heap.size)) ∧ W.ownsMap Tryz.prog 9 (plainElem (H := Unit) Tryz.prog 4) w1.heap.size pre.length (setF x m pre)) ∧ (Boxed W (w1.heap.size + 1 + 1 + 1) 2 (.int .i64 (m : Int)) ∧ Boxed W (w1.heap.size + 1 + 1) 9 (.string x))) ∧ Below w.heap.size w W)
    (fun _ _ _ => False)
    (OwnFrom.and (OwnFrom.and (OwnFrom.and (Own.from (boxed_own _ _ _) _) (fun s A B row hs hg hr => hs.kept hg (fun e => by have := (hr _ e.symm).1; omega))) (OwnFrom.and (Own.from (boxed_own _ _ _) _) (Own.from (boxed_own _ _ _) _))) (ownFrom_below (Nat.le_refl _) (by omega)))
    (fun _ _ _ _ _ hs _ _ => hs)
    ⟨⟨⟨p0, hm0⟩, q1, q2⟩, hB0⟩
    (fun i => { tmps := #[.string x, .int .i64 (m : Int), undef, undef, .slice none 0 0, .int .i64 0, .pointer (some ⟨w1.heap.size + 1, 0, none⟩), undef, .string (x.extract i (i + m)), .string x, .bool true, .bool false, .int .i64 (m : Int), .bool (decide ((m : Int) < 0)), .bool (decide ((m : Int) < 0)), .int .i64 (m : Int), .bool (decide (60 < (m : Int))), .bool (decide ((m : Int) < 0) || decide (60 < (m : Int))), .map (some w1.heap.size), .string x, .int .i64 (m : Int), .func (.func 167) #[] #[.pointer (some ⟨w1.heap.size + 1 + 1 + 1, 0, none⟩), .pointer (some ⟨w1.heap.size + 1 + 1, 0, none⟩)], .int .i64 (i : Int), .string (x.extract i (i + m)), undef, undef, undef, undef, undef, undef], defers := [] }) ?assign ?body ?done ?stop
  case assign =>
    intro l i W K hK
    gi_wp2
    exact hK
  case body =>
    rintro l pre i W ⟨⟨⟨hv, hown⟩, r1, r2⟩, hB⟩ hlt
    have hc := hv.cell
    have hbz := hB.size
    have hes : (x.extract i (i + m)).size ≤ 60 := by simp; omega
    have hkey := keyStr (s := x.extract i (i + m)) (by unfold maxLen; omega)
    have hn4 : pre.length < maxLen := by unfold maxLen; omega
    have UPD := fun (W2 : World) (g : W.grownBy W2 none) => (hown.kept g (by simp)).update (string_keyed Tryz.underlying9) Tryz.underlying155 hn4 hkey (plainElem_bool (H := Unit) Tryz.underlying4 true)
    have hmx : Tryz.prog.follows .mixedOrders = true := by kernel_rfl
    gi_wp2
    gi_region_with_o (refine ⟨trivial, ?_⟩; gi_at_call 96; refine (CallsIn.inRound l (callsIn_wide.2 (strings_Clone _ _ (by simp; omega)))).mono ?_; rintro e w2 ⟨rfl, b2⟩; have g2 : W.grownBy w2 none := ⟨b2.os, b2.tape, b2.output, b2.size, fun k hk _ => b2.block k hk⟩; have hc2 := (hv.kept g2 (by simp)).cell; obtain ⟨w3, hrun, hown1, hgrow1⟩ := UPD w2 g2)
    all_goals gi_wp2
    all_goals (try go_bits)
    all_goals
      have g2s := g2.size
      exact ⟨(KeepsFrom.of_grownBy g2 (fun j e => by cases e)).trans (KeepsFrom.of_grownBy hgrow1 (fun j e => by cases e; omega)),
        ⟨((Below.refl _ W).grown g2 hbz (fun k e => by cases e)).grown hgrow1 (by omega) (fun k e => by cases e; omega),
          (hgrow1.block _ (by have := r1.lt; omega) (fun e => by have := Option.some.inj e; omega)).trans (g2.block _ r1.lt (by simp)),
          (hgrow1.block _ (by have := r2.lt; omega) (fun e => by have := Option.some.inj e; omega)).trans (g2.block _ r2.lt (by simp))⟩,
        ⟨⟨(hv.kept g2 (by simp)).kept hgrow1 (fun e => by have := Option.some.inj e; omega), by rw [setF_snoc, List.length_append]; exact hown1⟩,
          (r1.kept g2 (by simp)).kept hgrow1 (fun e => by have := Option.some.inj e; omega), (r2.kept g2 (by simp)).kept hgrow1 (fun e => by have := Option.some.inj e; omega)⟩,
        (hB.grown g2 hbz (fun k e => by cases e)).grown hgrow1 (by omega) (fun k e => by cases e; omega)⟩
  case done =>
    rintro D ys W hD rfl ⟨⟨⟨hv, hown⟩, r1, r2⟩, hB⟩ hK
    have hc := hv.cell
    have hsz := setF_size x m (x.size + 1 - m) hown (string_keyed Tryz.underlying9) Tryz.underlying9
    have hpm := setF_perm x m (x.size + 1 - m) hown (string_keyed Tryz.underlying9) Tryz.underlying9
    have cS := Tryz.slices_Sorted_keys_151_152 w1.heap.size _ _ _ W hown (by unfold maxLen; omega) (by omega)
    have CS := Lib.hid cS
    have HP := Lib.hid hpm
    have HO := Lib.hid hown
    have hDl := (Array.getElem?_eq_some_iff.1 hK).1
    clear cS hpm hown
    gi_wp2_with (first
      | (refine ⟨trivial, ?_⟩; gi_at_call 152; refine (Tryz.maps_Keys_152 _ _).mono ?_; rintro e w3 ⟨rfl, rfl⟩)
      | (refine ⟨trivial, ?_⟩; gi_at_call 151; refine CS.out.mono ?_; rintro e w4 ⟨v, ss, rfl, hS, hrow, hnil, hb⟩; have HR := Lib.hid hrow; have HS := Lib.hid hS; clear hrow hnil hS))
    have hK4 : w4.heap[D]? = some (.deferred (some [])) := (hb.block D (by simp; omega)).trans ((Below.heap_alloc W _ D hDl).trans hK)
    refine ⟨by simp, .inl ⟨_, _, rfl, run_takeDeferred hK4, ?_⟩⟩
    have hp2 := HS.out.trans HP.out.symm
    have e1 := setF_sorted x m (x.size + 1 - m) ss hp2
    have e2 : ss.length = (facK x m (x.size + 1 - m)).length := by rw [hp2.length_eq, List.length_map]
    have hr2 := HR.out
    have hr3 : w4.ownsRow (W.alloc (.cells #[.map (some w1.heap.size)] 155)).heap.size 9 1 v (facK x m (x.size + 1 - m)).length ((facK x m (x.size + 1 - m)).map Value.string) := by
      rw [← e1, ← e2]; exact hr2
    have hbz := hB.size
    exact ⟨_, results_tmp2 rfl _ _ _, v, rfl, own_base (ownsRow_putObj hr3 _ hK4 rfl) (by simp; omega), ((hB.alloc hbz _).trans (hb.mono (by simp; omega))).trans (belowK_b (w := w) (Nat.le_refl _) w4 D _ _ (by omega) hK4 rfl rfl)⟩
  case stop =>
    rintro D c pre W _ _ h _
    exact h.elim

set_option maxRecDepth 100000 in
theorem impl_FactorsOf_bad (x : ByteArray) (m : Int) (w : World) (sx : x.size ≤ maxLen) (h : ¬ IsW x) :
    CallsIn Fence.wide 6 Tryz.prog 105 #[.string x, .int .i64 m] w (RetS [] 1 w) := by
  have H := Lib.hid h
  clear h
  refine callsIn_of_wp_marks Tryz.func105 rfl trivial ?_ rfl
  simp only [Tryz.ntmps105, List.size_toArray, List.length_cons, List.length_nil, Nat.reduceAdd, Nat.reduceSub, Array.replicate_succ, Array.replicate_zero, List.push_toArray, List.append_toArray, List.nil_append, List.cons_append]
  gi_wp2_with (refine ⟨trivial, ?_⟩; gi_at_call 77; refine (callsIn_wide.2 (isWord_not x _ sx H.out)).mono ?_; rintro e w1 ⟨rfl, b1⟩)
  exact ⟨_, results_tmp2 rfl _ _ _, _, rfl, OwnS.nil _ _, b1⟩

set_option maxRecDepth 100000 in
theorem impl_FactorsOf_low (x : ByteArray) (m : Int) (w : World) (h : IsW x) (hm : m < 0) :
    CallsIn Fence.wide 6 Tryz.prog 105 #[.string x, .int .i64 m] w (RetS [] 2 w) := by
  have H := Lib.hid h
  clear h
  refine callsIn_of_wp_marks Tryz.func105 rfl trivial ?_ rfl
  simp only [Tryz.ntmps105, List.size_toArray, List.length_cons, List.length_nil, Nat.reduceAdd, Nat.reduceSub, Array.replicate_succ, Array.replicate_zero, List.push_toArray, List.append_toArray, List.nil_append, List.cons_append]
  gi_wp2_with (refine ⟨trivial, ?_⟩; gi_at_call 77; refine (callsIn_wide.2 (isWord_yes x _ H.out)).mono ?_; rintro e w1 ⟨rfl, b1⟩)
  exact ⟨_, results_tmp2 rfl _ _ _, _, rfl, OwnS.nil _ _, b1⟩

set_option maxRecDepth 100000 in
theorem impl_FactorsOf_high (x : ByteArray) (m : Int) (w : World) (h : IsW x) (h0 : 0 ≤ m) (hm : 60 < m) :
    CallsIn Fence.wide 6 Tryz.prog 105 #[.string x, .int .i64 m] w (RetS [] 2 w) := by
  have H := Lib.hid h
  clear h
  refine callsIn_of_wp_marks Tryz.func105 rfl trivial ?_ rfl
  simp only [Tryz.ntmps105, List.size_toArray, List.length_cons, List.length_nil, Nat.reduceAdd, Nat.reduceSub, Array.replicate_succ, Array.replicate_zero, List.push_toArray, List.append_toArray, List.nil_append, List.cons_append]
  gi_wp2_with (refine ⟨trivial, ?_⟩; gi_at_call 77; refine (callsIn_wide.2 (isWord_yes x _ H.out)).mono ?_; rintro e w1 ⟨rfl, b1⟩)
  exact ⟨_, results_tmp2 rfl _ _ _, _, rfl, OwnS.nil _ _, b1⟩

theorem impl_FactorsOf (x : ByteArray) (m : Int) (w : World) (sx : x.size ≤ maxLen) (wm : (Lit.int .i64 m).wf = true) :
    Calls Tryz.prog 105 #[.string x, .int .i64 m] w (RetS (factorsR x m).1 (factorsR x m).2 w) := by
  by_cases h : IsW x
  · by_cases h0 : m < 0
    · rw [factorsR_out h (.inl h0)]
      exact callsIn_wide.1 (impl_FactorsOf_low x m w h h0)
    · by_cases h1 : 60 < m
      · rw [factorsR_out h (.inr h1)]
        exact callsIn_wide.1 (impl_FactorsOf_high x m w h (by omega) h1)
      · obtain ⟨n, rfl⟩ := Int.eq_ofNat_of_zero_le (show 0 ≤ m by omega)
        rw [factorsR_ok h (by omega)]
        exact callsIn_wide.1 (impl_FactorsOf_ok x n w h h.size (by omega))
  · rw [factorsR_bad h]
    exact callsIn_wide.1 (impl_FactorsOf_bad x m w sx h)

end Go.Proofs.YtfipbnognjepkaaGreatDoor
