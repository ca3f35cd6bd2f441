/- How many different turned words there are: the program and the model. -/
import Derived.Test.YthjbdcoklgnnlabTurnMap
import Derived.Test.YthjbdcoklgnnlabRootL
namespace Go.Proofs.Ythjbdcoklgnnlab
set_option linter.unusedVariables false
set_option linter.unusedSimpArgs false
open Go.RowKit Go.Shelf Go.Maps Go.Sort
attribute [local go_sem] Oper.semAt_some

noncomputable def countTR (x : ByteArray) : Int × Int := if ¬ IsW x then (0, 1) else ((countU x : Int), 0)
theorem countTR_bad {x : ByteArray} (h : ¬ IsW x) : countTR x = (0, 1) := if_pos h
theorem countTR_ok {x : ByteArray} (h : IsW x) : countTR x = ((countU x : Int), 0) := by unfold countTR; rw [if_neg (not_not_intro h)]
theorem countU_nil {x : ByteArray} (h : x.size = 0) : countU x = 1 := if_pos h
theorem countU_ok {x : ByteArray} (h : ¬ x.size = 0) : countU x = rl (bl x) := if_neg h

theorem keyStr' {s : ByteArray} (h : s.size ≤ maxLen) : keyOf Try.prog 9 (.string s) = some (.string s.data.toList) := by
  have h2 : s.data.size ≤ maxLen := h
  simp [keyOf, Try.underlying9, mapKey, h]

set_option maxRecDepth 100000 in
set_option maxHeartbeats 2000000 in
theorem impl_CountTurned_ok (x : ByteArray) (w : World) (h : IsW x) (hx : x.size ≤ 60) :
    CallsIn Fence.wide 4 Try.prog 52 #[.string x] w fun e w' => e = .returned (.tuple #[.int .i64 (countU x : Int), .int .i64 0]) ∧ Below w.heap.size w w' := by
  have H := Lib.hid h
  clear h
  have hmm := @run_makeMap Try.prog
  refine callsIn_of_wp_marks Try.func52 rfl trivial ?_ rfl
  simp only [Try.ntmps52, List.size_toArray, List.length_cons, List.length_nil, Nat.reduceAdd, Nat.reduceSub, Array.replicate_succ, Array.replicate_zero, List.push_toArray, List.append_toArray, List.nil_append, List.cons_append]
  gi_wp2_with (first | (refine ⟨trivial, ?_⟩; gi_at_call 85; refine (callsIn_wide.2 (isWord_yes x _ H.out)).mono ?_; rintro e w1 ⟨rfl, b1⟩) | (refine ⟨trivial, ?_⟩; gi_at_call 123; refine (turnedWords_in Fence.wide _ trivial rfl _ _).mono ?_; rintro e w2 ⟨rfl, rfl⟩))
  have hw1 := b1.size
  obtain ⟨W0, hW0⟩ : ∃ W0 : World, W0 = ((w1.alloc (.map #[] 0)).alloc (.cells #[.map (some w1.heap.size)] 107)).alloc (.cells #[.string x] 9) := ⟨_, rfl⟩
  have hB0 : Below w.heap.size w W0 := by rw [hW0]; exact ((b1.alloc b1.size _).alloc (by simp; omega) _).alloc (by simp; omega) _
  have p0 : Boxed W0 (w1.heap.size + 1) 107 (.map (some w1.heap.size)) := by
    have := Boxed.new (w1.alloc (.map #[] 0)) 107 (.map (some w1.heap.size))
    rw [World.size_alloc] at this
    rw [hW0]
    exact this.alloc _
  have q1 : Boxed W0 (w1.heap.size + 1 + 1) 9 (.string x) := by
    have := Boxed.new ((w1.alloc (.map #[] 0)).alloc (.cells #[.map (some w1.heap.size)] 107)) 9 (.string x)
    simp only [World.size_alloc] at this
    rw [hW0]
    exact this
  have hm0 : W0.ownsMap Try.prog 9 (plainElem (H := Unit) Try.prog 4) w1.heap.size 0 (setT x []) := by rw [hW0]; exact ((World.ownsMap_made w1 Try.prog 9 (plainElem (H := Unit) Try.prog 4)).alloc _).alloc _
  have hs0 : W0.heap.size = w1.heap.size + 3 := by rw [hW0]; simp
  rw [← hW0]
  clear hW0 b1
  refine wpIn_rangeFunc_ownG rfl (by decide) (gf := 164) (lb := #[.pointer (some ⟨w1.heap.size + 1 + 1, 0, none⟩)]) rfl trivial (enters_of Try.func164 (by kernel_rfl) rfl)
    (turned_stops Fence.wide 3 trivial rfl (by decide) (w1.heap.size + 1 + 1) w.heap.size x hx W0 q1) kpT_t (kpT_b (by omega) (by omega)) (Below.refl _ _) (fun _ => rfl)
    (fun pre W => ((Boxed W (w1.heap.size + 1) 107 (.map (some w1.heap.size)) ∧ W.ownsMap Try.prog 9 (plainElem (H := Unit) Try.prog 4) w1.heap.size pre.length (setT x pre)) ∧ Boxed W (w1.heap.size + 1 + 1) 9 (.string x)) ∧ Below w.heap.size w W)
    (fun _ _ _ => False)
    (OwnFrom.and (OwnFrom.and (OwnFrom.and (boxed_ownV _ _ _ (fun _ => .map (some w1.heap.size))) (fun s A B row hs hg hr => hs.kept hg (fun e => by have := (hr _ e.symm).1; omega))) (boxed_ownV _ _ _ (fun _ => .string x))) (ownFrom_below (Nat.le_refl _) (by omega)))
    (fun _ _ _ _ _ hs _ _ => hs)
    ⟨⟨⟨p0, hm0⟩, q1⟩, hB0⟩
    (fun i => { tmps := #[.string x, undef, .int .i64 0, .int .i64 0, .pointer (some ⟨w1.heap.size + 1, 0, none⟩), undef, .string (turned x i), .string x, .bool true, .bool false, .map (some w1.heap.size), .string x, .func (.func 164) #[] #[.pointer (some ⟨w1.heap.size + 1 + 1, 0, none⟩)], .int .i64 (i : Int), .string (turned x i), undef, undef, undef, undef], defers := [] }) ?assign ?body ?done ?stop
  case assign =>
    intro l i W K hK
    gi_wp2
    exact hK
  case body =>
    rintro l pre i W ⟨⟨⟨hv, hown⟩, r1⟩, hB⟩ hlt
    have hc := hv.cell
    have hbz := hB.size
    have r1l := r1.lt
    have hes := turned_size_le x i
    have hkey := keyStr' (s := turned x i) (by unfold maxLen; omega)
    have hn4 : pre.length < maxLen := by unfold maxLen; omega
    have hsn := setT_snoc x pre i
    obtain ⟨w3, hrun, hown1, hgrow1⟩ := hown.update (string_keyed Try.underlying9) Try.underlying107 hn4 hkey (plainElem_bool (H := Unit) Try.underlying4 true)
    rw [← hsn] at hown1
    generalize turned x i = t at *
    gi_wp2
    exact ⟨KeepsFrom.of_grownBy hgrow1 (fun j e => by cases e; omega),
      ⟨(Below.refl _ W).grown hgrow1 hbz (fun k e => by cases e; omega), hgrow1.block _ r1l (fun e => by have := Option.some.inj e; omega)⟩,
      ⟨⟨hv.kept hgrow1 (fun e => by have := Option.some.inj e; omega), by rw [List.length_append]; exact hown1⟩, r1.kept hgrow1 (fun e => by have := Option.some.inj e; omega)⟩,
      hB.grown hgrow1 hbz (fun k e => by cases e; omega)⟩
  case done =>
    rintro D ys W hD rfl ⟨⟨⟨hv, hown⟩, r1⟩, hB⟩ hK
    have hc := hv.cell
    have hsz := setT_size x hown (string_keyed Try.underlying9) Try.underlying9
    have hln := fun ty => hown.len Try.underlying107 ty
    rw [hsz] at hln
    clear hsz hown
    gi_wp2
    refine ⟨by simp, .inl ⟨_, _, rfl, run_takeDeferred hK, ?_⟩⟩
    exact ⟨_, results_tmp2 rfl _ _ _, rfl, hB.trans (belowK_b (w := w) (Nat.le_refl _) W D _ _ (by omega) hK rfl rfl)⟩
  case stop =>
    rintro D c pre W _ _ h _
    exact h.elim

set_option maxRecDepth 100000 in
theorem impl_CountTurned_bad (x : ByteArray) (w : World) (sx : x.size ≤ maxLen) (h : ¬ IsW x) :
    CallsIn Fence.wide 4 Try.prog 52 #[.string x] w fun e w' => e = .returned (.tuple #[.int .i64 0, .int .i64 1]) ∧ Below w.heap.size w w' := by
  have H := Lib.hid h
  clear h
  refine callsIn_of_wp_marks Try.func52 rfl trivial ?_ rfl
  simp only [Try.ntmps52, List.size_toArray, List.length_cons, List.length_nil, Nat.reduceAdd, Nat.reduceSub, Array.replicate_succ, Array.replicate_zero, List.push_toArray, List.append_toArray, List.nil_append, List.cons_append]
  gi_wp2_with (refine ⟨trivial, ?_⟩; gi_at_call 85; refine (callsIn_wide.2 (isWord_not x _ sx H.out)).mono ?_; rintro e w1 ⟨rfl, b1⟩)
  exact ⟨_, results_tmp2 rfl _ _ _, rfl, b1⟩

theorem impl_CountTurned (x : ByteArray) (w : World) (sx : x.size ≤ maxLen) :
    Calls Try.prog 52 #[.string x] w fun e w' => e = .returned (.tuple #[.int .i64 (countTR x).1, .int .i64 (countTR x).2]) ∧ Below w.heap.size w w' := by
  by_cases h : IsW x
  · rw [countTR_ok h]
    exact callsIn_wide.1 (impl_CountTurned_ok x w h h.size)
  · rw [countTR_bad h]
    exact callsIn_wide.1 (impl_CountTurned_bad x w sx h)

end Go.Proofs.Ythjbdcoklgnnlab
