/- The least numbers of palindromic parts from each place on: the program. -/
import Derived.Test.YtddfdciohnabbacGreatPalIter
import Derived.Test.YtddfdciohnabbacGreatMarks
import Derived.Test.YtddfdciohnabbacGreatTailIn
import Derived.StillTailTactics
import Derived.Deep.LoopGhost
namespace Go.Proofs.YtddfdciohnabbacGreat
set_option linter.unusedVariables false
set_option linter.unusedSimpArgs false
open Go.RowKit Go.Shelf
attribute [local go_sem] Oper.semAt_some

/-- A list made with all its cells, inside a fence. -/
theorem wpListIn_make_full {F : Fence} {n : Nat} {P : Program} (w : World) {ops : Array Oper} {rest : List Oper} {o : Oper} {a : Act} {Q : Exit → Act → World → Prop}
    (hg : o.guard = none) (l c : Operand) (t : TypeId) (hop : o.op = Op.makeSlice t l c)
    (base : Nat) (e : TypeId) (i : TypeInfo) (z : Value) (size : Nat) (h1 : P.underlying t = some (.slice e)) (h2 : P.info? e = some i) (h3 : i.zero = some z) (h4 : i.size = size)
    (kl kc : IntKind) (L C : Int) (m : Nat) (hl : a.eval l = .int kl L) (hc : a.eval c = .int kc C) (hL : L = (m : Int)) (hC : C = (m : Int)) (b2 : i.bytes * m ≤ 281474976710656) (b3 : m ≤ maxLen) (b4 : base ≤ w.heap.size)
    (hK : ∀ w', w'.ownsRow base e size (.slice (some ⟨w.heap.size, 0, none⟩) m m) m (madeCells z.cells (m * size)).toList → w.grownBy w' none → wpListIn F n P ops Q rest (a.put o.dst (.slice (some ⟨w.heap.size, 0, none⟩) m m)) w') :
    wpListIn F n P ops Q (o :: rest) a w := by
  refine wpListIn_plain hg fun K hK' => ?_
  obtain ⟨w', hrun, r1, r2⟩ := run_make_full (P := P) w base t e i z size h1 h2 h3 h4 kl kc m b2 b3 b4
  subst hL
  subst hC
  unfold Oper.wpIn
  refine ⟨?_, ?_⟩
  · simp [Oper.about, hop]
  · rw [Oper.semAt_plain F _ _ (by rw [hop]; intro c hc'; cases hc')]
    simp [execOp, hop, hl, hc, hrun, Result.andThen]
    exact hK' _ _ (hK w' r1 r2)

/-- How the numbers stand at the head of a round. -/
def FwAt (x : ByteArray) (w : World) (gk : Nat) (a : Act) (W : World) : Prop :=
  ∃ (u1 u2 u5 u6 u7 u8 u9 u10 u11 u12 u13 u14 u15 u16 u17 u18 u19 u20 u21 u22 u23 u24 u25 u26 u27 u28 u29 u30 u31 u32 u33 u34 u35 u36 u37 u38 u39 u40 u41 u42 u43 u44 u45 u46 u47 : Value) (k B3 B4 : Nat) (Ds : List Nat), a = { tmps := #[.string x, u1, u2, .pointer (some ⟨B3, 0, none⟩), .pointer (some ⟨B4, 0, none⟩), u5, u6, u7, u8, u9, u10, u11, u12, u13, u14, u15, u16, u17, u18, u19, u20, u21, u22, u23, u24, u25, u26, u27, u28, u29, u30, u31, u32, u33, u34, u35, u36, u37, u38, u39, u40, u41, u42, u43, u44, u45, u46, u47], defers := Ds.map mkD } ∧ k = gk ∧ k ≤ x.size ∧
    Boxed W B3 42 (.slice (some ⟨w.heap.size, 0, none⟩) (x.size + 1) (x.size + 1)) ∧ Boxed W B4 3 (.int .i64 ((k : Int) - 1)) ∧ w.heap.size < B3 ∧ B3 < B4 ∧
    W.ownsRow w.heap.size 2 1 (.slice (some ⟨w.heap.size, 0, none⟩) (x.size + 1) (x.size + 1)) (x.size + 1) ((fL x k).map (Value.int .i64)) ∧ Below w.heap.size w W ∧ MarksAt W (w.heap.size + 1) Ds

theorem fL_cell {x : ByteArray} {k : Nat} {W : World} {g B : Nat} (h : W.ownsRow B 2 1 (.slice (some ⟨g, 0, none⟩) (x.size + 1) (x.size + 1)) (x.size + 1) ((fL x k).map (Value.int .i64))) {j : Nat} (hj : k ≤ j) (hx : j ≤ x.size) : W.cell? ⟨g, j, none⟩ = some (.int .i64 (fF x j : Int)) := by
  rw [h.cellAt j (by omega), List.getElem?_map, List.getElem?_eq_getElem (by rw [fL_len]; omega), fL_get, if_pos hj]
  rfl
theorem fL_cell0 {x : ByteArray} {k : Nat} {W : World} {g B : Nat} (h : W.ownsRow B 2 1 (.slice (some ⟨g, 0, none⟩) (x.size + 1) (x.size + 1)) (x.size + 1) ((fL x k).map (Value.int .i64))) {j : Nat} (hj : j < k) (hx : j ≤ x.size) : W.cell? ⟨g, j, none⟩ = some (.int .i64 0) := by
  rw [h.cellAt j (by omega), List.getElem?_map, List.getElem?_eq_getElem (by rw [fL_len]; omega), fL_get, if_neg (by omega)]
  rfl
theorem fL_cell2 {x : ByteArray} {k i : Nat} {v : Int} {W : World} {g B : Nat} (h : W.ownsRow B 2 1 (.slice (some ⟨g, 0, none⟩) (x.size + 1) (x.size + 1)) (x.size + 1) (((fL x k).map (Value.int .i64)).set i (.int .i64 v))) {j : Nat} (hi : i < j) (hj : k ≤ j) (hx : j ≤ x.size) : W.cell? ⟨g, j, none⟩ = some (.int .i64 (fF x j : Int)) := by
  rw [h.cellAt j (by omega), List.getElem?_set_ne (by omega), List.getElem?_map, List.getElem?_eq_getElem (by rw [fL_len]; omega), fL_get, if_pos hj]
  rfl
theorem fL_cell3 {x : ByteArray} {k i : Nat} {v : Int} {W : World} {g B : Nat} (h : W.ownsRow B 2 1 (.slice (some ⟨g, 0, none⟩) (x.size + 1) (x.size + 1)) (x.size + 1) (((fL x k).map (Value.int .i64)).set i (.int .i64 v))) (hx : i ≤ x.size) : W.cell? ⟨g, i, none⟩ = some (.int .i64 v) := by
  rw [h.cellAt i (by omega), List.getElem?_set_self (by rw [List.length_map, fL_len]; omega)]

set_option maxRecDepth 100000 in
set_option maxHeartbeats 4000000 in
theorem fewestFrom_in (x : ByteArray) (w : World) (hx : x.size ≤ 60) :
    CallsIn Fence.wide 4 Tryz.prog 28 #[.string x] w fun e w' => e = .returned (.slice (some ⟨w.heap.size, 0, none⟩) (x.size + 1) (x.size + 1)) ∧ w'.ownsRow w.heap.size 2 1 (.slice (some ⟨w.heap.size, 0, none⟩) (x.size + 1) (x.size + 1)) (x.size + 1) ((fL x 0).map (Value.int .i64)) ∧ Below w.heap.size w w' ∧ w.heap.size < w'.heap.size := by
  obtain ⟨i0, hi, hz0, hz1, hz2⟩ := info_parts infoI64
  have hmo : Tryz.prog.follows .mixedOrders = true := by kernel_rfl
  refine callsIn_of_wp_marks Tryz.func28 rfl trivial ?_ rfl
  simp only [Tryz.ntmps28, List.size_toArray, List.length_cons, List.length_nil, Nat.reduceAdd, Nat.reduceSub, Array.replicate_succ, Array.replicate_zero, List.push_toArray, List.append_toArray, List.nil_append, List.cons_append]
  gi_wp2_with (gi_at_make; refine wpListIn_make_full _ rfl _ _ 42 rfl w.heap.size 2 i0 (.int .i64 0) 1 Tryz.underlying42 hi hz0 hz1 .i64 .i64 ((x.size : Int) + 1) ((x.size : Int) + 1) (x.size + 1) rfl rfl (by omega) (by omega) (by rw [hz2]; omega) (by unfold maxLen; omega) (Nat.le_refl _) ?_; intro w1 hown hgrow)
  have hlt := (World.ownsRow.lt hown w.heap.size rfl).2
  have B1 : Below w.heap.size w w1 := (Below.refl _ _).grown hgrow (Nat.le_refl _) (fun _ e => by cases e)
  have hown0 : w1.ownsRow w.heap.size 2 1 (.slice (some ⟨w.heap.size, 0, none⟩) (x.size + 1) (x.size + 1)) (x.size + 1) ((fL x x.size).map (Value.int .i64)) := by
    have h2 := hown
    rw [show (Value.int .i64 0).cells = #[Value.int .i64 0] from rfl, toList_madeCells_one, Nat.mul_one] at h2
    rw [fL_start, List.map_replicate]
    exact h2
  have v4 : Boxed ((w1.alloc (.cells #[.slice (some ⟨w.heap.size, 0, none⟩) (x.size + 1) (x.size + 1)] 42)).alloc (.cells #[.int .i64 ((x.size : Int) - 1)] 3)) (w1.heap.size + 1) 3 (.int .i64 ((x.size : Int) - 1)) := by
    have := Boxed.new (w1.alloc (.cells #[.slice (some ⟨w.heap.size, 0, none⟩) (x.size + 1) (x.size + 1)] 42)) 3 (.int .i64 ((x.size : Int) - 1))
    rwa [World.size_alloc] at this
  clear hown hgrow
  refine wpIn_loop_ghost_k (fun n a W => FwAt x w n a W) x.size ⟨_, _, _, _, _, _, _, _, _, _, _, _, _, _, _, _, _, _, _, _, _, _, _, _, _, _, _, _, _, _, _, _, _, _, _, _, _, _, _, _, _, _, _, _, _, x.size, w1.heap.size, w1.heap.size + 1, [], rfl, rfl, Nat.le_refl _, (Boxed.new w1 _ _).alloc _, v4, hlt, by omega, (hown0.alloc _).alloc _, (B1.alloc (by omega) _).alloc (by simp; omega) _, MarksAt.nil _ _⟩ ?_
  clear v4 hown0 B1 hlt
  intro gk a W hI J K hJ hK
  obtain ⟨u1, u2, u5, u6, u7, u8, u9, u10, u11, u12, u13, u14, u15, u16, u17, u18, u19, u20, u21, u22, u23, u24, u25, u26, u27, u28, u29, u30, u31, u32, u33, u34, u35, u36, u37, u38, u39, u40, u41, u42, u43, u44, u45, u46, u47, k, B3, B4, Ds, rfl, rfl, hkx, v3, v4, hB3, hB34, hown, hB, hM⟩ := hI
  have c3 := v3.cell
  have c4 := v4.cell
  have hbz := hB.size
  have l3 := v3.lt
  have l4 := v4.lt
  by_cases hp : 1 ≤ k
  · obtain ⟨i, hik⟩ : ∃ i, k = i + 1 := ⟨k - 1, by omega⟩
    have hie : (k : Int) - 1 = (i : Int) := by omega
    rw [hie] at c4 v4
    have hpi : (0 : Int) ≤ (i : Int) := by omega
    have cn := fL_cell hown (Nat.le_refl k) hkx
    have ci := fL_cell0 hown (show i < k by omega) (by omega)
    have fz : ∀ j, W.frozen? ⟨w.heap.size, j, none⟩ = false := fun j => hown.frozenAt j
    have fzi := fz i
    have hst := (hown.stored i (.int .i64 ((fF x k : Int) + 1))).1
    have hfr := fF_room' x k hkx
    have HM0 : Hid (MnI x i (fun _ => False) (fF x k + 1)) := Lib.hid ⟨fF_le x (by omega) (by omega) (by rw [hik]; exact palS_one x i (by omega)), fun j _ _ hj => hj.elim⟩
    have HIK := Lib.hid hik
    have hi1 : i < x.size + 1 := by omega
    have hi2 : k < x.size + 1 := by omega
    have hnb3 : ¬ B3 = w.heap.size := by omega
    have hnb3' : ¬ w.heap.size = B3 := by omega
    have hnb4 : ¬ B4 = w.heap.size := by omega
    have hnb4' : ¬ w.heap.size = B4 := by omega
    have hi1i : (i : Int) < (x.size : Int) + 1 := by omega
    have hi2i : (k : Int) < (x.size : Int) + 1 := by omega
    have wq : IntKind.i64.wrap ((i : Int) + 1) = (k : Int) := by rw [show (i : Int) + 1 = (k : Int) by omega]; exact IntWalk.i64_in _ (by omega)
    obtain ⟨fn, hfn⟩ : ∃ q, fF x k = q := ⟨_, rfl⟩
    rw [hfn] at cn hst hfr HM0
    have wq2 : IntKind.i64.wrap ((fn : Int) + 1) = (fn : Int) + 1 := IntWalk.i64_in _ (by omega)
    clear hfn hp hik hie
    gi_wp2
    refine wpIn_region_tailR 9 hmo (by kernel_rfl) (by kernel_rfl) ?_
    simp only [List.take_succ_cons, List.take_zero, List.drop_succ_cons, List.drop_zero]
    repeat still_step
    try refine wpStill_nil ?_
    change wpListIn _ _ _ _ _ _ _ W.drew
    gi_wp2_with (refine ⟨trivial, ?_⟩; gi_at_call 29; refine (palindromesAt_in _ _ _ _).mono ?_; rintro e w2 ⟨rfl, rfl⟩)
    have s1 : W.grownBy (W.setCell ⟨w.heap.size, i, none⟩ (.int .i64 ((fn : Int) + 1))) (some w.heap.size) := grown_set (grown_refl W (some w.heap.size)) i _
    have w3 : Boxed (W.setCell ⟨w.heap.size, i, none⟩ (.int .i64 ((fn : Int) + 1))) B3 42 (.slice (some ⟨w.heap.size, 0, none⟩) (x.size + 1) (x.size + 1)) := v3.kept s1 (fun e => hnb3 (Option.some.inj e))
    have w4 : Boxed (W.setCell ⟨w.heap.size, i, none⟩ (.int .i64 ((fn : Int) + 1))) B4 3 (.int .i64 (i : Int)) := v4.kept s1 (fun e => hnb4 (Option.some.inj e))
    have hB1 : Below w.heap.size w (W.setCell ⟨w.heap.size, i, none⟩ (.int .i64 ((fn : Int) + 1))) := hB.setCell (p := ⟨w.heap.size, i, none⟩) (Nat.le_refl _) _
    have hM1 : MarksAt (W.setCell ⟨w.heap.size, i, none⟩ (.int .i64 ((fn : Int) + 1))) (w.heap.size + 1) Ds := ⟨hM.1, fun D hD => ⟨(hM.2 D hD).1, (s1.block D (hM.lt D hD) (fun e => by have := (hM.2 D hD).1; have := Option.some.inj e; omega)).trans (hM.2 D hD).2⟩⟩
    have hsz1 : (W.setCell ⟨w.heap.size, i, none⟩ (.int .i64 ((fn : Int) + 1))).heap.size = W.heap.size := by simp [World.setCell]
    rw [← hsz1] at hbz l3 l4
    generalize hW1 : W.setCell ⟨w.heap.size, i, none⟩ (.int .i64 ((fn : Int) + 1)) = W1 at *
    rw [← hsz1]
    clear hsz1
    clear hown hB hM v3 v4 c3 c4 cn ci fz fzi s1 hW1
    have q1 : Boxed ((W1.alloc (.cells #[.string x] 9)).alloc (.cells #[.int .i64 (i : Int)] 3)).drew W1.heap.size 9 (.string x) := (Boxed.new W1 _ _).alloc _
    have q2 : Boxed ((W1.alloc (.cells #[.string x] 9)).alloc (.cells #[.int .i64 (i : Int)] 3)).drew (W1.heap.size + 1) 3 (.int .i64 (i : Int)) := by
      have := Boxed.new (W1.alloc (.cells #[.string x] 9)) 3 (.int .i64 (i : Int))
      rw [World.size_alloc] at this
      exact this
    have d3 : Boxed ((W1.alloc (.cells #[.string x] 9)).alloc (.cells #[.int .i64 (i : Int)] 3)).drew B3 _ _ := (w3.alloc (.cells #[.string x] 9)).alloc (.cells #[.int .i64 (i : Int)] 3)
    have d4 : Boxed ((W1.alloc (.cells #[.string x] 9)).alloc (.cells #[.int .i64 (i : Int)] 3)).drew B4 _ _ := (w4.alloc (.cells #[.string x] 9)).alloc (.cells #[.int .i64 (i : Int)] 3)
    have dB := ((hB1.alloc hbz (.cells #[.string x] 9)).alloc (by simp; omega) (.cells #[.int .i64 (i : Int)] 3)).drew
    have hs0 : ((W1.alloc (.cells #[.string x] 9)).alloc (.cells #[.int .i64 (i : Int)] 3)).drew.heap.size = W1.heap.size + 2 := by simp
    have dM : MarksAt ((W1.alloc (.cells #[.string x] 9)).alloc (.cells #[.int .i64 (i : Int)] 3)).drew (w.heap.size + 1) Ds := hM1.keep fun b o hb _ => by
      have hlt := (Array.getElem?_eq_some_iff.1 hb).1
      have e1 := Below.heap_alloc (W1.alloc (.cells #[.string x] 9)) (.cells #[.int .i64 (i : Int)] 3) b (by simp; omega)
      have e2 := Below.heap_alloc W1 (.cells #[.string x] 9) b hlt
      exact (e1.trans e2).trans hb
    have dr : ((W1.alloc (.cells #[.string x] 9)).alloc (.cells #[.int .i64 (i : Int)] 3)).drew.ownsRow w.heap.size 2 1 (.slice (some ⟨w.heap.size, 0, none⟩) (x.size + 1) (x.size + 1)) (x.size + 1) (((fL x k).map (Value.int .i64)).set i (.int .i64 ((fn : Int) + 1))) :=
      World.ownsRow.kept ((hst.alloc (.cells #[.string x] 9)).alloc (.cells #[.int .i64 (i : Int)] 3)) (row := none) ⟨rfl, rfl, rfl, Nat.le_refl _, fun _ _ _ => rfl⟩ (.inr (fun e => by cases e))
    have hMl := hM1.lt
    generalize hW0 : ((W1.alloc (.cells #[.string x] 9)).alloc (.cells #[.int .i64 (i : Int)] 3)).drew = W0 at q1 q2 d3 d4 dB hs0 dM dr ⊢
    clear hW0 w3 w4 hB1 hM1 hst
    have hmi := Lib.hid fun j => mem_tosL x i j (x.size - i)
    refine wpIn_rangeFunc_ownG rfl (by decide) (gf := 49) (lb := #[.pointer (some ⟨W1.heap.size, 0, none⟩), .pointer (some ⟨W1.heap.size + 1, 0, none⟩)]) rfl trivial (enters_of Tryz.func49 (by kernel_rfl) rfl)
      (palsT_stops 3 (by decide) W1.heap.size (W1.heap.size + 1) w.heap.size x i hx (by omega) W0 q1 q2) kpF_t (kpF_b (by omega) (by omega) (by omega)) (Below.refl _ _) (fun _ => rfl)
      (fun pre W' => ∃ v : Nat, W'.ownsRow w.heap.size 2 1 (.slice (some ⟨w.heap.size, 0, none⟩) (x.size + 1) (x.size + 1)) (x.size + 1) (((fL x k).map (Value.int .i64)).set i (.int .i64 (v : Int))) ∧ v ≤ 61 ∧ Hid (MnI x i (fun j => j ∈ pre.map Subtype.val) v) ∧ Boxed W' B3 42 (.slice (some ⟨w.heap.size, 0, none⟩) (x.size + 1) (x.size + 1)) ∧ Boxed W' B4 3 (.int .i64 (i : Int)) ∧ (Boxed W' W1.heap.size 9 (.string x) ∧ Boxed W' (W1.heap.size + 1) 3 (.int .i64 (i : Int))) ∧ Below w.heap.size w W' ∧ MarksAt W' (w.heap.size + 1) Ds)
      (fun c pre W' => False)
      (fun s A B row hs hg hr => by
        obtain ⟨v, h1, hv, h2, h3, h4, ⟨h5, h6⟩, h7, h8⟩ := hs
        have hne : ∀ b, b < W0.heap.size → some b ≠ row := fun b hb e => by have := (hr _ e.symm).1; omega
        exact ⟨v, World.ownsRow.kept h1 hg (.inr (hne w.heap.size (by omega))), hv, h2, h3.kept hg (hne _ (by omega)), h4.kept hg (hne _ (by omega)), ⟨h5.kept hg (hne _ (by omega)), h6.kept hg (hne _ (by omega))⟩, h7.grown hg (by have := h7.size; omega) (fun k e => by have := (hr _ e).1; omega),
          ⟨h8.1, fun D hD => ⟨(h8.2 D hD).1, (hg.block D (h8.lt D hD) (hne D (by have := hMl D hD; omega))).trans (h8.2 D hD).2⟩⟩⟩)
      (fun c s A B row hs hg hr => hs.elim)
      ⟨fn + 1, by rw [show ((fn + 1 : Nat) : Int) = (fn : Int) + 1 by omega]; exact dr, by omega, Lib.hid ⟨HM0.out.1, fun j h1 h2 h3 => by simp at h3⟩, d3, d4, ⟨q1, q2⟩, dB, dM⟩
      (fun j => { tmps := #[.string x, u1, u2, .pointer (some ⟨B3, 0, none⟩), .pointer (some ⟨B4, 0, none⟩), .string (x.extract i j.1), u6, u7, u8, u9, u10, u11, u12, .int .i64 (i : Int), .bool true, u15, u16, .slice (some ⟨w.heap.size, 0, none⟩) (x.size + 1) (x.size + 1), .int .i64 (i : Int), .slice (some ⟨w.heap.size, 0, none⟩) (x.size + 1) (x.size + 1), .int .i64 (i : Int), .int .i64 (k : Int), .pointer (some ⟨w.heap.size, k, none⟩), .int .i64 (fn : Int), .int .i64 ((fn : Int) + 1), .pointer (some ⟨w.heap.size, i, none⟩), .string x, .int .i64 (i : Int), .func (.func 49) #[] #[.pointer (some ⟨W1.heap.size, 0, none⟩), .pointer (some ⟨W1.heap.size + 1, 0, none⟩)], .string (x.extract i j.1), u30, u31, u32, u33, u34, u35, u36, u37, u38, u39, u40, u41, u42, u43, u44, u45, u46, u47], defers := [] }) ?assign ?body ?done ?stop
    case assign =>
      intro l j W K hK
      gi_wp2
      first
        | exact hK
        | (go_simp; exact hK)
        | simpa using hK
    case body =>
      rintro l pre ⟨j, hjm⟩ W' ⟨v, h1, hv, h2, h3, h4, ⟨h5, h6⟩, h7, h8⟩ hlt
      obtain ⟨hij, hjs, hjp⟩ := (hmi.out j).1 hjm
      have c3 := h3.cell
      have c4 := h4.cell
      have m3 := h3.lt
      have m4 := h4.lt
      have m5 := h5.lt
      have m6 := h6.lt
      have ci := fL_cell3 h1 (show i ≤ x.size by omega)
      have hki := HIK.out
      have cj := fL_cell2 h1 (show i < j by omega) (show k ≤ j by omega) (by omega)
      have fzi : W'.frozen? ⟨w.heap.size, i, none⟩ = false := h1.frozenAt i
      have hfj := fF_room' x j (by omega)
      have hz : (x.extract i j).size = j - i := by simp; omega
      have HS : Hid (MnI x i (fun t => t ∈ (pre ++ [(⟨j, hjm⟩ : { j : Nat // j ∈ tosL x i (x.size - i) })]).map Subtype.val) (min v (fF x j + 1))) := Lib.hid (h2.out.step (by omega) (by omega) hjp fun t ht => by
        rw [List.map_append, List.mem_append] at ht
        rcases ht with ht | ht
        · exact .inl ht
        · exact .inr (by simpa using ht))
      have hji : (j : Int) < (x.size : Int) + 1 := by omega
      have wq3 : IntKind.i64.wrap ((i : Int) + ((x.extract i j).size : Int)) = (j : Int) := by rw [hz, show (i : Int) + ((j - i : Nat) : Int) = (j : Int) by omega]; exact IntWalk.i64_in _ (by omega)
      obtain ⟨fj, hfe⟩ : ∃ q, fF x j = q := ⟨_, rfl⟩
      rw [hfe] at cj hfj HS
      have wq4 : IntKind.i64.wrap ((fj : Int) + 1) = (fj : Int) + 1 := IntWalk.i64_in _ (by omega)
      have hst := (h1.stored i (.int .i64 (min (v : Int) ((fj : Int) + 1)))).1
      rw [List.set_set] at hst
      have hmn : min (v : Int) ((fj : Int) + 1) = ((min v (fj + 1) : Nat) : Int) := by omega
      have hjn : ¬ i = j := by omega
      clear hfe hz hjp hki
      generalize x.extract i j = y at *
      gi_wp2
      refine wpIn_region_tailR 16 hmo (by kernel_rfl) (by kernel_rfl) ?_
      simp only [List.take_succ_cons, List.take_zero, List.drop_succ_cons, List.drop_zero]
      repeat still_step
      try refine wpStill_nil ?_
      change wpListIn _ _ _ _ _ _ _ W'.drew
      gi_wp2
      rw [hmn] at hst
      have hgs := grown_set (grown_refl W' (some w.heap.size)) i (.int .i64 ((min v (fj + 1) : Nat) : Int))
      have G : W'.grownBy (W'.setCell ⟨w.heap.size, i, none⟩ (.int .i64 ((min v (fj + 1) : Nat) : Int))).drew (some w.heap.size) := ⟨hgs.os, hgs.tape, hgs.output, hgs.size, hgs.block⟩
      have row := World.ownsRow.kept hst (row := none) (w' := (W'.setCell ⟨w.heap.size, i, none⟩ (.int .i64 ((min v (fj + 1) : Nat) : Int))).drew) ⟨rfl, rfl, rfl, Nat.le_refl _, fun _ _ _ => rfl⟩ (.inr (fun e => by cases e))
      have ne : ∀ b, ¬ b = w.heap.size → some b ≠ some w.heap.size := fun b hb e => hb (Option.some.inj e)
      exact ⟨KeepsFrom.of_grownBy G (fun k e => by cases e; omega), ⟨(Below.refl _ _).grown G h7.size (fun k e => by cases e; exact Nat.le_refl _), G.block _ m5 (ne _ (by omega)), G.block _ m6 (ne _ (by omega))⟩, _, row, by omega, HS, h3.kept G (ne _ hnb3), h4.kept G (ne _ hnb4), ⟨h5.kept G (ne _ (by omega)), h6.kept G (ne _ (by omega))⟩, h7.grown G h7.size (fun k e => by cases e; exact Nat.le_refl _), h8.1, fun D hD => ⟨(h8.2 D hD).1, (G.block D (h8.lt D hD) (ne _ (by have := (h8.2 D hD).1; omega))).trans (h8.2 D hD).2⟩⟩
    case done =>
      rintro D ys W' hD hys ⟨v, h1, hv, h2, h3, h4, ⟨h5, h6⟩, h7, h8⟩ hKD
      have c3 := h3.cell
      have c4 := h4.cell
      have m3 := h3.lt
      have h7s := h7.size
      have hve : v = fF x i := h2.out.done (by have := HIK.out; omega) fun j hj1 hj2 hj3 => by rw [hys]; exact (hmi.out j).2 ⟨hj1, by omega, hj3⟩
      have hrow : W'.ownsRow w.heap.size 2 1 (.slice (some ⟨w.heap.size, 0, none⟩) (x.size + 1) (x.size + 1)) (x.size + 1) ((fL x i).map (Value.int .i64)) := by
        rw [← fL_set x i (by have := HIK.out; omega), ← HIK.out, ← hve]
        exact h1
      clear h2 hve
      gi_wp2
      refine Handed.intro i (by have := HIK.out; omega) (hJ _ _ _ ⟨_, _, _, _, _, _, _, _, _, _, _, _, _, _, _, _, _, _, _, _, _, _, _, _, _, _, _, _, _, _, _, _, _, _, _, _, _, _, _, _, _, _, _, _, _, i, B3, W'.heap.size, D :: Ds, rfl, rfl, by have := HIK.out; omega, h3.alloc _, Boxed.new W' _ _, hB3, m3, hrow.alloc _, h7.alloc h7s _, ?_⟩)
      have hDl := (Array.getElem?_eq_some_iff.1 hKD).1
      refine MarksAt.old (W := W') (MarksAt.cons h8 (by omega) hKD fun hm => ?_) fun b hb => Below.heap_alloc _ _ b hb
      have := hMl D hm
      omega
    case stop =>
      rintro D c pre W' hD hj hf hKD
      exact hf.elim
  · have hpi : ¬ (0 : Int) ≤ (k : Int) - 1 := by omega
    obtain rfl : k = 0 := by omega
    clear hp
    gi_wp2
    exact leaves_marks (fun W => W.ownsRow w.heap.size 2 1 (.slice (some ⟨w.heap.size, 0, none⟩) (x.size + 1) (x.size + 1)) (x.size + 1) ((fL x 0).map (Value.int .i64)) ∧ Below w.heap.size w W ∧ w.heap.size < W.heap.size) (fun W hW => ⟨_, results_tmp Tryz.results28 _ _ _, rfl, hW⟩) Ds _ (w.heap.size + 1) hM
      (fun D W hD hs hK => ⟨World.ownsRow.kept hs.1 (grownBy_putObj' W D _) (.inr (fun e => by have e2 : w.heap.size = D := Option.some.inj e; omega)), hs.2.1.trans (belowK_b (w := w) (Nat.le_refl _) W D _ _ (by omega) hK rfl rfl), by have := hs.2.2; simpa [World.putObj] using this⟩) ⟨hown, hB, by omega⟩

end Go.Proofs.YtddfdciohnabbacGreat
