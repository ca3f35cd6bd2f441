/- The least turned word: the program and the model. -/
import Derived.Test.YthjbdcoklgnnlabTurnIter
import Derived.Test.YthjbdcoklgnnlabLyn
import Derived.Test.YthjbdcoklgnnlabRotPlain
import Derived.Test.YthjbdcoklgnnlabTurn
namespace Go.Proofs.Ythjbdcoklgnnlab
set_option linter.unusedVariables false
set_option linter.unusedSimpArgs false
open Go.RowKit Go.Shelf
attribute [local go_sem] Oper.semAt_some

/-- The least of the turned words told, and by how many letters. -/
def ltS (x : ByteArray) (p : ByteArray × Nat) (k : Nat) : ByteArray × Nat := if bl (turned x k) < bl p.1 then (turned x k, k) else p
def ltF (x : ByteArray) (pre : List Nat) : ByteArray × Nat := pre.foldl (ltS x) (x, 0)
theorem ltF_nil (x : ByteArray) : ltF x [] = (x, 0) := rfl
theorem ltF_snoc (x : ByteArray) (pre : List Nat) (k : Nat) : ltF x (pre ++ [k]) = ltS x (ltF x pre) k := by unfold ltF; rw [List.foldl_append]; rfl
theorem ltS_hit {x : ByteArray} {p : ByteArray × Nat} {k : Nat} (h : bl (turned x k) < bl p.1) : ltS x p k = (turned x k, k) := if_pos h
theorem ltS_miss {x : ByteArray} {p : ByteArray × Nat} {k : Nat} (h : ¬ bl (turned x k) < bl p.1) : ltS x p k = p := if_neg h
theorem turned_zero (x : ByteArray) : turned x 0 = x := bl_inj (by unfold turned; rw [bl_append, bl_drop, bl_take]; simp)
theorem turned_size (x : ByteArray) (k : Nat) (h : k ≤ x.size) : (turned x k).size = x.size := by unfold turned; rw [ByteArray.size_append]; simp; omega
theorem turned_size_le (x : ByteArray) (k : Nat) : (turned x k).size ≤ x.size + x.size := by unfold turned; rw [ByteArray.size_append]; simp; omega
theorem bl_turned (x : ByteArray) (k : Nat) : bl (turned x k) = rotL (bl x) k := by unfold turned rotL; rw [bl_append, bl_drop, bl_take]
theorem ltF_one (x : ByteArray) : ltF x (List.range 1) = (x, 0) := by
  show ltS x (x, 0) 0 = (x, 0)
  unfold ltS
  rw [turned_zero]
  split <;> rfl
theorem ltF_size' (x : ByteArray) : ∀ (pre : List Nat) (p : ByteArray × Nat), p.1.size ≤ x.size + x.size → (pre.foldl (ltS x) p).1.size ≤ x.size + x.size
  | [], p, h => h
  | k :: pre, p, h => by
    rw [List.foldl_cons]
    refine ltF_size' x pre _ ?_
    unfold ltS
    split
    · exact turned_size_le x k
    · exact h
theorem ltF_size (x : ByteArray) (pre : List Nat) : (ltF x pre).1.size ≤ x.size + x.size := ltF_size' x pre _ (by show x.size ≤ _; omega)
def ltR (x : ByteArray) : ByteArray × Int × Int := if ¬ IsW x then (⟨#[]⟩, 0, 1) else ((ltF x (List.range (max 1 x.size))).1, ((ltF x (List.range (max 1 x.size))).2 : Int), 0)
theorem ltR_bad {x : ByteArray} (h : ¬ IsW x) : ltR x = (⟨#[]⟩, 0, 1) := if_pos h
theorem ltR_ok {x : ByteArray} (h : IsW x) : ltR x = ((ltF x (List.range (max 1 x.size))).1, ((ltF x (List.range (max 1 x.size))).2 : Int), 0) := by unfold ltR; rw [if_neg (not_not_intro h)]

set_option maxRecDepth 100000 in
set_option maxHeartbeats 1000000 in
theorem l02Least_any (x : ByteArray) (w : World) (hx : x.size ≤ 60) :
    Calls Try.prog 120 #[.string x] w fun e w' => e = .returned (.tuple #[.string (ltF x (List.range (max 1 x.size))).1, .int .i64 ((ltF x (List.range (max 1 x.size))).2 : Int)]) ∧ Below w.heap.size w w' := by
  go_enter Try.func120, Try.ntmps120
  go_wp2
  go_loopg [4, 5, 6] x.size (fun g s4 s5 s6 wr => ∃ (k : Nat) (p : ByteArray × Nat), k + g = x.size + 1 ∧ 1 ≤ k ∧ k ≤ max 1 x.size ∧ s4 = .string p.1 ∧ s5 = .int .i64 (p.2 : Int) ∧ s6 = .int .i64 (k : Int) ∧ Hid (p = ltF x (List.range k)) ∧ Below w.heap.size w wr)
  case atStart => exact ⟨1, (x, 0), by omega, by omega, by omega, rfl, rfl, rfl, Lib.hid (ltF_one x).symm, Below.refl _ _⟩
  case round =>
    obtain ⟨k, p, hk, hk1, hkm, rfl, rfl, rfl, HP, hB⟩ := hrel
    by_cases hp : k < x.size
    · obtain ⟨g, rfl⟩ : ∃ g, gk = g + 1 := ⟨gk - 1, by omega⟩
      have hsn := ltF_snoc x (List.range k) k
      rw [← List.range_succ, ← HP.out] at hsn
      have HS := Lib.hid hsn
      have CT := Lib.hid fun w => l01Turned_any x k w (by omega) hx
      clear hsn
      by_cases hl : bl (turned x k) < bl p.1
      · have d1 := less_yes hl
        have HV := Lib.hid (ltS_hit hl)
        clear hl
        generalize turned x k = t at *
        go_wp2_with fail
        refine (CT.out _).mono ?_
        rintro e w2 ⟨rfl, b2⟩
        go_wp2_with fail
        go_roundg g
        case measure => omega
        case rel => exact ⟨k + 1, (t, k), by omega, by omega, by omega, rfl, rfl, by go_num, Lib.hid (by rw [HS.out, HV.out]), hB.then b2⟩
      · have d1 := less_no hl
        have HV := Lib.hid (ltS_miss hl)
        clear hl
        generalize turned x k = t at *
        go_wp2_with fail
        refine (CT.out _).mono ?_
        rintro e w2 ⟨rfl, b2⟩
        go_wp2_with fail
        go_roundg g
        case measure => omega
        case rel => exact ⟨k + 1, p, by omega, by omega, by omega, rfl, rfl, by go_num, Lib.hid (by rw [HS.out, HV.out]), hB.then b2⟩
    · have hke : k = max 1 x.size := by omega
      have HK := Lib.hid hke
      clear hke
      go_wp2
      go_ret2
      exact ⟨by rw [← HK.out, ← HP.out]; rfl, hB⟩

set_option maxRecDepth 100000 in
set_option maxHeartbeats 2000000 in
theorem impl_LeastTurned_ok (x : ByteArray) (w : World) (h : IsW x) (hx : x.size ≤ 60) :
    CallsIn Fence.wide 4 Try.prog 51 #[.string x] w fun e w' => e = .returned (.tuple #[.string (ltF x (List.range (max 1 x.size))).1, .int .i64 ((ltF x (List.range (max 1 x.size))).2 : Int), .int .i64 0]) ∧ Below w.heap.size w w' := by
  have H := Lib.hid h
  clear h
  have hmo : Try.prog.follows .mixedOrders = true := by kernel_rfl
  refine callsIn_of_wp_marks Try.func51 rfl trivial ?_ rfl
  simp only [Try.ntmps51, List.size_toArray, List.length_cons, List.length_nil, Nat.reduceAdd, Nat.reduceSub, Array.replicate_succ, Array.replicate_zero, List.push_toArray, List.append_toArray, List.nil_append, List.cons_append]
  gi_wp2_with (first | (refine ⟨trivial, ?_⟩; gi_at_call 85; refine (callsIn_wide.2 (isWord_yes x _ H.out)).mono ?_; rintro e w1 ⟨rfl, b1⟩) | (refine ⟨trivial, ?_⟩; gi_at_call 123; refine (turnedWords_in Fence.wide _ trivial rfl _ _).mono ?_; rintro e w2 ⟨rfl, rfl⟩))
  have hw1 := b1.size
  obtain ⟨W0, hW0⟩ : ∃ W0 : World, W0 = ((w1.alloc (.cells #[.string x] 9)).alloc (.cells #[.int .i64 0] 2)).alloc (.cells #[.string x] 9) := ⟨_, rfl⟩
  have hB0 : Below w.heap.size w W0 := by rw [hW0]; exact ((b1.alloc b1.size _).alloc (by simp; omega) _).alloc (by simp; omega) _
  have p5 : Boxed W0 w1.heap.size 9 (.string (ltF x []).1) := by rw [hW0]; exact ((Boxed.new w1 _ _).alloc _).alloc _
  have p6 : Boxed W0 (w1.heap.size + 1) 2 (.int .i64 ((ltF x []).2 : Int)) := by
    have := Boxed.new (w1.alloc (.cells #[.string x] 9)) 2 (.int .i64 0)
    rw [World.size_alloc] at this
    rw [hW0]
    exact this.alloc _
  have q1 : Boxed W0 (w1.heap.size + 1 + 1) 9 (.string x) := by
    have := Boxed.new ((w1.alloc (.cells #[.string x] 9)).alloc (.cells #[.int .i64 0] 2)) 9 (.string x)
    simp only [World.size_alloc] at this
    rw [hW0]
    exact this
  have hs0 : W0.heap.size = w1.heap.size + 3 := by rw [hW0]; simp
  rw [← hW0]
  clear hW0 b1
  refine wpIn_rangeFunc_ownG rfl (by decide) (gf := 164) (lb := #[.pointer (some ⟨w1.heap.size + 1 + 1, 0, none⟩)]) rfl trivial (enters_of Try.func164 (by kernel_rfl) rfl)
    (turned_stops Fence.wide 3 trivial rfl (by decide) (w1.heap.size + 1 + 1) w.heap.size x hx W0 q1) kpT_t (kpT_b (by omega) (by omega)) (Below.refl _ _) (fun _ => rfl)
    (fun pre W => ((Boxed W w1.heap.size 9 (.string (ltF x pre).1) ∧ Boxed W (w1.heap.size + 1) 2 (.int .i64 ((ltF x pre).2 : Int))) ∧ Boxed W (w1.heap.size + 1 + 1) 9 (.string x)) ∧ Below w.heap.size w W)
    (fun _ _ _ => False)
    (OwnFrom.and (OwnFrom.and (OwnFrom.and (boxed_ownV _ _ _ (fun pre => .string (ltF x pre).1)) (boxed_ownV _ _ _ (fun pre => .int .i64 ((ltF x pre).2 : Int)))) (boxed_ownV _ _ _ (fun _ => .string x))) (ownFrom_below (Nat.le_refl _) (by omega)))
    (fun _ _ _ _ _ hs _ _ => hs)
    ⟨⟨⟨p5, p6⟩, q1⟩, hB0⟩
    (fun i => { tmps := #[.string x, undef, .string ⟨#[]⟩, .int .i64 0, .int .i64 0, .pointer (some ⟨w1.heap.size, 0, none⟩), .pointer (some ⟨w1.heap.size + 1, 0, none⟩), .int .i64 (i : Int), .string (turned x i), .string x, .bool true, .bool false, .string x, .string x, .func (.func 164) #[] #[.pointer (some ⟨w1.heap.size + 1 + 1, 0, none⟩)], .int .i64 (i : Int), .string (turned x i), undef, undef, undef, undef, undef, undef, undef, undef], defers := [] }) ?assign ?body ?done ?stop
  case assign =>
    intro l i W K hK
    gi_wp2
    exact hK
  case body =>
    rintro l pre i W ⟨⟨⟨v5, v6⟩, r1⟩, hB⟩ hlt
    have c5 := v5.cell
    have c6 := v6.cell
    have f5 := v5.frozen
    have f6 := v6.frozen
    have hbz := hB.size
    have r1l := r1.lt
    have hsn := ltF_snoc x pre i
    generalize ltF x pre = p at *
    by_cases hl : bl (turned x i) < bl p.1
    · have d1 := less_yes hl
      rw [ltS_hit hl] at hsn
      clear hl
      generalize turned x i = t at *
      gi_wp2
      refine ⟨(KeepsFrom.of_grownBy (grownBy_setCell' _ _ _) (fun j e => by cases e; omega)).trans (KeepsFrom.of_grownBy (grownBy_setCell' _ _ _) (fun j e => by cases e; omega)),
        ⟨((Below.refl _ W).setCell (p := ⟨w1.heap.size, 0, none⟩) (by simp; omega) _).setCell (p := ⟨w1.heap.size + 1, 0, none⟩) (by simp; omega) _, ?_⟩, ⟨⟨?_, ?_⟩, ?_⟩, (hB.setCell (p := ⟨w1.heap.size, 0, none⟩) (by simp; omega) _).setCell (p := ⟨w1.heap.size + 1, 0, none⟩) (by simp; omega) _⟩
      · rw [(grownBy_setCell' _ _ _).block _ (by simp [World.setCell]; omega) (fun e => by have := Option.some.inj e; omega), (grownBy_setCell' _ _ _).block _ r1l (fun e => by have := Option.some.inj e; omega)]
      · rw [hsn]; exact (v5.set _).kept (grownBy_setCell' _ _ _) (fun e => by have := Option.some.inj e; omega)
      · rw [hsn]; exact (v6.kept (grownBy_setCell' _ _ _) (fun e => by have := Option.some.inj e; omega)).set _
      · exact (r1.kept (grownBy_setCell' _ _ _) (fun e => by have := Option.some.inj e; omega)).kept (grownBy_setCell' _ _ _) (fun e => by have := Option.some.inj e; omega)
    · have d1 := less_no hl
      rw [ltS_miss hl] at hsn
      clear hl
      generalize turned x i = t at *
      gi_wp2
      exact ⟨KeepsFrom.refl _ _, ⟨Below.refl _ _, rfl⟩, ⟨⟨by rw [hsn]; exact v5, by rw [hsn]; exact v6⟩, r1⟩, hB⟩
  case done =>
    rintro D ys W hD rfl ⟨⟨⟨v5, v6⟩, r1⟩, hB⟩ hK
    have hsz := ltF_size x (List.range (max 1 x.size))
    generalize hp : ltF x (List.range (max 1 x.size)) = p at v5 v6 hsz
    have HP := Lib.hid hp
    clear hp
    have c5 := v5.cell
    have c6 := v6.cell
    have hDl := (Array.getElem?_eq_some_iff.1 hK).1
    have l5 := v5.lt
    have l6 := v6.lt
    gi_wp2
    refine wpIn_only ?_
    gi_region_with_o (refine ⟨trivial, ?_⟩; gi_at_call 105; refine (callsIn_wide.2 (strings_Clone _ _ (by omega))).mono ?_; rintro e w4 ⟨rfl, b4⟩; have k6 : w4.cell? ⟨w1.heap.size + 1, 0, none⟩ = some (.int .i64 (p.2 : Int)) := (b4.cell (p := ⟨w1.heap.size + 1, 0, none⟩) (by simpa using l6)).trans c6)
    all_goals
      refine onlyN_normal ?_
      gi_wp2
      have hK4 : w4.heap[D]? = some (.deferred (some [])) := (b4.block D (by simpa using hDl)).trans hK
      refine ⟨by simp, .inl ⟨_, _, rfl, run_takeDeferred hK4, ?_⟩⟩
      exact ⟨_, results_tmp3 rfl _ _ _, by rw [HP.out]; rfl, ((hB.drew).trans (b4.mono (by simpa using hB.size))).trans (belowK_b (w := w) (Nat.le_refl _) w4 D _ _ (by have := hB.size; omega) hK4 rfl rfl)⟩
  case stop =>
    rintro D c pre W _ _ h _
    exact h.elim

set_option maxRecDepth 100000 in
theorem impl_LeastTurned_bad (x : ByteArray) (w : World) (sx : x.size ≤ maxLen) (h : ¬ IsW x) :
    CallsIn Fence.wide 4 Try.prog 51 #[.string x] w fun e w' => e = .returned (.tuple #[.string ⟨#[]⟩, .int .i64 0, .int .i64 1]) ∧ Below w.heap.size w w' := by
  have H := Lib.hid h
  clear h
  refine callsIn_of_wp_marks Try.func51 rfl trivial ?_ rfl
  simp only [Try.ntmps51, List.size_toArray, List.length_cons, List.length_nil, Nat.reduceAdd, Nat.reduceSub, Array.replicate_succ, Array.replicate_zero, List.push_toArray, List.append_toArray, List.nil_append, List.cons_append]
  gi_wp2_with (refine ⟨trivial, ?_⟩; gi_at_call 85; refine (callsIn_wide.2 (isWord_not x _ sx H.out)).mono ?_; rintro e w1 ⟨rfl, b1⟩)
  exact ⟨_, results_tmp3 rfl _ _ _, rfl, b1⟩

theorem impl_LeastTurned (x : ByteArray) (w : World) (sx : x.size ≤ maxLen) :
    Calls Try.prog 51 #[.string x] w fun e w' => e = .returned (.tuple #[.string (ltR x).1, .int .i64 (ltR x).2.1, .int .i64 (ltR x).2.2]) ∧ Below w.heap.size w w' := by
  by_cases h : IsW x
  · rw [ltR_ok h]
    exact callsIn_wide.1 (impl_LeastTurned_ok x w h h.size)
  · rw [ltR_bad h]
    exact callsIn_wide.1 (impl_LeastTurned_bad x w sx h)

end Go.Proofs.Ythjbdcoklgnnlab
