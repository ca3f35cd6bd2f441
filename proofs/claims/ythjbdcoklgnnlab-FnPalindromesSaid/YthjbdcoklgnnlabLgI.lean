/- The longest palindrome of a word: the program and the model. -/
import Derived.Test.YthjbdcoklgnnlabMarks
import Derived.Test.YthjbdcoklgnnlabLgPlain
import Derived.Test.YthjbdcoklgnnlabScopeIn
import Derived.Test.YthjbdcoklgnnlabPal
import Derived.Test.YthjbdcoklgnnlabExp
import Derived.Test.YthjbdcoklgnnlabLib
import Derived.Deep.LoopGhost
namespace Go.Proofs.Ythjbdcoklgnnlab
set_option linter.unusedVariables false
set_option linter.unusedSimpArgs false
open Go.RowKit Go.Shelf
attribute [local go_sem] Oper.semAt_some

theorem results_boxes3 {fn : Func} {t u v : Tmp} {ty ty2 ty3 : TypeId} (h : fn.results = #[.cell t ty, .cell u ty2, .cell v ty3]) {tmps : Array Value} {P : Program} {W : World} {b1 b2 b3 : Nat} {v1 v2 v3 : Value}
    (h1 : tmps[t]?.getD undef = .pointer (some ⟨b1, 0, none⟩)) (h2 : tmps[u]?.getD undef = .pointer (some ⟨b2, 0, none⟩)) (h3 : tmps[v]?.getD undef = .pointer (some ⟨b3, 0, none⟩)) (g1 : ∀ w, (isAgg ty).run P w = .ok false w) (g2 : ∀ w, (isAgg ty2).run P w = .ok false w) (g3 : ∀ w, (isAgg ty3).run P w = .ok false w) (c1 : W.cell? ⟨b1, 0, none⟩ = some v1) (c2 : W.cell? ⟨b2, 0, none⟩ = some v2) (c3 : W.cell? ⟨b3, 0, none⟩ = some v3) :
    (results fn tmps).run P W = .ok (.tuple #[v1, v2, v3]) W := by
  simp [results, h, h1, h2, h3, go_sem, g1, g2, g3, c1, c2, c3, asAddr]
theorem lg_boxes {w w1 : World} (b : Below (((w.alloc (.cells #[.string ⟨#[]⟩] 9)).alloc (.cells #[.int .i64 0] 2)).alloc (.cells #[.int .i64 0] 2)).heap.size (((w.alloc (.cells #[.string ⟨#[]⟩] 9)).alloc (.cells #[.int .i64 0] 2)).alloc (.cells #[.int .i64 0] 2)) w1) :
    Boxed w1 w.heap.size 9 (.string ⟨#[]⟩) ∧ Boxed w1 (w.heap.size + 1) 2 (.int .i64 0) ∧ Boxed w1 (w.heap.size + 1 + 1) 2 (.int .i64 0) ∧ Below w.heap.size w w1 ∧ w.heap.size + 3 ≤ w1.heap.size := by
  have hs : (((w.alloc (.cells #[.string ⟨#[]⟩] 9)).alloc (.cells #[.int .i64 0] 2)).alloc (.cells #[.int .i64 0] 2)).heap.size = w.heap.size + 3 := by simp
  have p1 : Boxed ((w.alloc (.cells #[.string ⟨#[]⟩] 9)).alloc (.cells #[.int .i64 0] 2)) (w.heap.size + 1) 2 (.int .i64 0) := by
    have := Boxed.new (w.alloc (.cells #[.string ⟨#[]⟩] 9)) 2 (.int .i64 0)
    rwa [World.size_alloc] at this
  have p2 : Boxed (((w.alloc (.cells #[.string ⟨#[]⟩] 9)).alloc (.cells #[.int .i64 0] 2)).alloc (.cells #[.int .i64 0] 2)) (w.heap.size + 1 + 1) 2 (.int .i64 0) := by
    have := Boxed.new ((w.alloc (.cells #[.string ⟨#[]⟩] 9)).alloc (.cells #[.int .i64 0] 2)) 2 (.int .i64 0)
    rwa [World.size_alloc, World.size_alloc] at this
  exact ⟨(b.block _ (by omega)).trans (((Boxed.new w _ _).alloc _).alloc _), (b.block _ (by omega)).trans (p1.alloc _), (b.block _ (by omega)).trans p2, (((Below.new _ _).alloc (by simp) _).alloc (by simp; omega) _).trans (b.mono (by omega)), by have := b.size; omega⟩
/-- All three boxes of the results are written. -/
theorem three_boxes {w W : World} {b : Nat} {t u s : TypeId} {v v' v'' x x' x'' : Value} (v2 : Boxed W b t v) (v3 : Boxed W (b + 1) u v') (v4 : Boxed W (b + 1 + 1) s v'') (hB : Below w.heap.size w W) (hb : w.heap.size ≤ b) {W' : World} (hW : W' = ((W.setCell ⟨b, 0, none⟩ x).setCell ⟨b + 1, 0, none⟩ x').setCell ⟨b + 1 + 1, 0, none⟩ x'') :
    Boxed W' b t x ∧ Boxed W' (b + 1) u x' ∧ Boxed W' (b + 1 + 1) s x'' ∧ Below w.heap.size w W' ∧
    (∀ B, b + 2 < B → KeepsFrom B W W') ∧ ∀ D, D < W.heap.size → D ≠ b → D ≠ b + 1 → D ≠ b + 1 + 1 → W'.heap[D]? = W.heap[D]? := by
  subst hW
  obtain ⟨t1, t2, t3, t4, t5⟩ := two_boxes (x := x) (x' := x') v2 v3 hB hb
  have hs : ((W.setCell ⟨b, 0, none⟩ x).setCell ⟨b + 1, 0, none⟩ x').heap.size = W.heap.size := by simp [World.setCell]
  have l4 := v4.lt
  have h4 : Boxed ((W.setCell ⟨b, 0, none⟩ x).setCell ⟨b + 1, 0, none⟩ x') (b + 1 + 1) s v'' := (t5 _ l4 (by omega) (by omega)).trans v4
  refine ⟨t1.kept (grownBy_setCell' _ _ _) (fun e => by have := Option.some.inj e; omega), t2.kept (grownBy_setCell' _ _ _) (fun e => by have := Option.some.inj e; omega), h4.set _, t3.setCell (p := ⟨b + 1 + 1, 0, none⟩) (by show w.heap.size ≤ b + 1 + 1; omega) _, fun B h => (t4 B (by omega)).trans (KeepsFrom.of_grownBy (grownBy_setCell' _ _ _) (fun j e => by cases e; omega)), fun D h1 h2 h3 h5 => ?_⟩
  rw [(grownBy_setCell' _ _ _).block D (by rw [hs]; exact h1) (fun e => by have := Option.some.inj e; omega)]
  exact t5 D h1 h2 h3

theorem lgF_pos {x : ByteArray} (h0 : 0 < x.size) : ∀ m, 1 ≤ m → 0 < (lgF x m).1.size
  | 0, h => by omega
  | m + 1, _ => by
    by_cases e : m = 0
    · subst e; rw [lgF_one h0]; simp; omega
    · cases hq : piI x (m + 1) 0 (x.size + 1 - (m + 1)) with
      | none => rw [lgF_miss (by omega) hq]; exact lgF_pos h0 m (by omega)
      | some i =>
        rw [lgF_hit (by omega) hq]
        have := piI_lt _ _ hq
        simp; omega
/-- How the search stands at the head of a round. -/
def LgAt (x R : ByteArray) (pl : Nat) (w : World) (gk : Nat) (a : Act) (W : World) : Prop :=
  ∃ (u1 u5 u6 u7 u8 u9 u10 u11 u12 u13 u14 u15 u16 u17 u18 u19 u20 u21 u22 u23 u24 u25 u26 : Value) (n : Nat) (Ds : List Nat), a = { tmps := #[.string x, u1, .pointer (some ⟨w.heap.size, 0, none⟩), .pointer (some ⟨w.heap.size + 1, 0, none⟩), .pointer (some ⟨w.heap.size + 1 + 1, 0, none⟩), u5, u6, u7, u8, u9, u10, u11, u12, u13, u14, u15, u16, u17, u18, u19, u20, u21, u22, u23, u24, u25, u26], defers := Ds.map mkD } ∧ u5 = .int .i64 (n : Int) ∧ n ≤ gk ∧ n ≤ x.size ∧
    Boxed W w.heap.size 9 (.string ⟨#[]⟩) ∧ Boxed W (w.heap.size + 1) 2 (.int .i64 0) ∧ Boxed W (w.heap.size + 1 + 1) 2 (.int .i64 0) ∧ Below w.heap.size w W ∧ MarksAt W w.heap.size Ds ∧ Hid (lgF x n = (R, pl))

theorem lg_step (w : World) (R : ByteArray) (p c : Int) : ∀ (D : Nat) (W : World), w.heap.size ≤ D → (Boxed W w.heap.size 9 (.string R) ∧ Boxed W (w.heap.size + 1) 2 (.int .i64 p) ∧ Boxed W (w.heap.size + 1 + 1) 2 (.int .i64 c) ∧ Below w.heap.size w W) → W.heap[D]? = some (.deferred (some [])) →
    (Boxed (W.putObj D (.deferred none)) w.heap.size 9 (.string R) ∧ Boxed (W.putObj D (.deferred none)) (w.heap.size + 1) 2 (.int .i64 p) ∧ Boxed (W.putObj D (.deferred none)) (w.heap.size + 1 + 1) 2 (.int .i64 c) ∧ Below w.heap.size w (W.putObj D (.deferred none))) := fun D W hD hs hK => by
  have hne : ∀ {b : Nat} {t : TypeId} {v : Value}, Boxed W b t v → some b ≠ some D := fun hb e => by
    have e1 := Option.some.inj e
    subst e1
    rw [show W.heap[_]? = _ from hb] at hK
    cases hK
  exact ⟨hs.1.kept (grownBy_putObj' W D _) (hne hs.1), hs.2.1.kept (grownBy_putObj' W D _) (hne hs.2.1), hs.2.2.1.kept (grownBy_putObj' W D _) (hne hs.2.2.1), hs.2.2.2.trans (belowK_b (w := w) (Nat.le_refl _) W D _ _ hD hK rfl rfl)⟩

set_option maxRecDepth 100000 in
set_option maxHeartbeats 4000000 in
theorem impl_Lg_ok (x R : ByteArray) (pl : Nat) (w : World) (h : IsW x) (h0 : ¬ x.size = 0) (hR0 : 0 < R.size) (hR : lgF x x.size = (R, pl)) :
    CallsIn Fence.wide 4 Try.prog 61 #[.string x] w fun e w' => e = .returned (.tuple #[.string R, .int .i64 (pl : Int), .int .i64 0]) ∧ Below w.heap.size w w' := by
  have hx := h.size
  have H := Lib.hid h
  have HR0 := Lib.hid hR
  clear h hR
  refine callsIn_of_wp_marks Try.func61 rfl trivial ?_ rfl
  simp only [Try.ntmps61, List.size_toArray, List.length_cons, List.length_nil, Nat.reduceAdd, Nat.reduceSub, Array.replicate_succ, Array.replicate_zero, List.push_toArray, List.append_toArray, List.nil_append, List.cons_append]
  gi_wp2_with (refine ⟨trivial, ?_⟩; gi_at_call 85; refine (callsIn_wide.2 (isWord_yes x _ H.out)).mono ?_; rintro e w1 ⟨rfl, b1⟩; obtain ⟨v1, v2, v3, hB, hz⟩ := lg_boxes b1)
  refine wpIn_loop_ghost_k (fun n a W => LgAt x R pl w n a W) x.size ⟨_, _, _, _, _, _, _, _, _, _, _, _, _, _, _, _, _, _, _, _, _, _, _, x.size, [], rfl, rfl, Nat.le_refl _, Nat.le_refl _, v1, v2, v3, hB, MarksAt.nil _ _, HR0⟩ ?_
  clear v1 v2 v3 hB HR0 hz b1
  intro gk a W hI J K hJ hK
  obtain ⟨u1, u5, u6, u7, u8, u9, u10, u11, u12, u13, u14, u15, u16, u17, u18, u19, u20, u21, u22, u23, u24, u25, u26, n, Ds, rfl, rfl, hn, hnx, v1, v2, v3, hB, hM, HR⟩ := hI
  have hbz := hB.size
  have l1 := v1.lt
  have l2 := v2.lt
  have l3 := v3.lt
  by_cases hp : 0 < n
  · obtain ⟨g, rfl⟩ : ∃ g, gk = g + 1 := ⟨gk - 1, by omega⟩
    have hpi : (0 : Int) < (n : Int) := by omega
    gi_wp2_with (refine ⟨trivial, ?_⟩; gi_at_call 106; refine (factorsIn_in Fence.wide _ trivial rfl _ _ _).mono ?_; rintro e w2 ⟨rfl, rfl⟩)
    have q2 : Boxed ((W.alloc (.cells #[.string x] 9)).alloc (.cells #[.int .i64 (n : Int)] 2)) W.heap.size 9 (.string x) := (Boxed.new W _ _).alloc _
    have q1 : Boxed ((W.alloc (.cells #[.string x] 9)).alloc (.cells #[.int .i64 (n : Int)] 2)) (W.heap.size + 1) 2 (.int .i64 (n : Int)) := by
      have := Boxed.new (W.alloc (.cells #[.string x] 9)) 2 (.int .i64 (n : Int))
      rwa [World.size_alloc] at this
    have d1 := (v1.alloc (.cells #[.string x] 9)).alloc (.cells #[.int .i64 (n : Int)] 2)
    have d2 := (v2.alloc (.cells #[.string x] 9)).alloc (.cells #[.int .i64 (n : Int)] 2)
    have d3 := (v3.alloc (.cells #[.string x] 9)).alloc (.cells #[.int .i64 (n : Int)] 2)
    have dB := (hB.alloc hbz (.cells #[.string x] 9)).alloc (by simp; omega) (.cells #[.int .i64 (n : Int)] 2)
    have hs0 : ((W.alloc (.cells #[.string x] 9)).alloc (.cells #[.int .i64 (n : Int)] 2)).heap.size = W.heap.size + 2 := by simp
    have dM : MarksAt ((W.alloc (.cells #[.string x] 9)).alloc (.cells #[.int .i64 (n : Int)] 2)) w.heap.size Ds := hM.keep fun b o hb _ => by
      have hlt := (Array.getElem?_eq_some_iff.1 hb).1
      rw [Below.heap_alloc _ _ b (by simp; omega), Below.heap_alloc _ _ b hlt]
      exact hb
    have hMl := hM.lt
    generalize hW0 : (W.alloc (.cells #[.string x] 9)).alloc (.cells #[.int .i64 (n : Int)] 2) = W0 at q1 q2 d1 d2 d3 dB hs0 dM ⊢
    clear hW0 v1 v2 v3 hB hM
    refine wpIn_rangeFunc_ownG rfl (by decide) (gf := 155) (lb := #[.pointer (some ⟨W.heap.size + 1, 0, none⟩), .pointer (some ⟨W.heap.size, 0, none⟩)]) rfl trivial (enters_of Try.func155 (by kernel_rfl) rfl)
      (factorsF_stops Fence.wide 3 trivial rfl (by decide) (W.heap.size + 1) W.heap.size w.heap.size x n hx (by omega) W0 q1 q2) kpF_t (kpF_b (by omega) (by omega) (by omega)) (Below.refl _ _) (fun _ => rfl)
      (fun pre W' => Boxed W' w.heap.size 9 (.string ⟨#[]⟩) ∧ Boxed W' (w.heap.size + 1) 2 (.int .i64 0) ∧ Boxed W' (w.heap.size + 1 + 1) 2 (.int .i64 0) ∧ (Boxed W' (W.heap.size + 1) 2 (.int .i64 (n : Int)) ∧ Boxed W' W.heap.size 9 (.string x)) ∧ Below w.heap.size w W' ∧ MarksAt W' w.heap.size Ds ∧ Hid (∀ k ∈ pre, palB (bl (x.extract k.val (k.val + n))) = false))
      (fun c pre W' => c = .ret ∧ ∃ (s : ByteArray) (q : Nat), Boxed W' w.heap.size 9 (.string s) ∧ Boxed W' (w.heap.size + 1) 2 (.int .i64 (q : Int)) ∧ Boxed W' (w.heap.size + 1 + 1) 2 (.int .i64 0) ∧ Below w.heap.size w W' ∧ MarksAt W' w.heap.size Ds ∧ Hid (∃ pre' i, pre = pre' ++ [i] ∧ (∀ k ∈ pre', palB (bl (x.extract k.val (k.val + n))) = false) ∧ palB (bl (x.extract i.val (i.val + n))) = true ∧ s = x.extract i.val (i.val + n) ∧ q = i.val))
      (fun s A B row hs hg hr => by
        obtain ⟨h1, h2, h4, ⟨h5, h6⟩, h7, h8, h9⟩ := hs
        have hne : ∀ b, b < W0.heap.size → some b ≠ row := fun b hb e => by have := (hr _ e.symm).1; omega
        exact ⟨h1.kept hg (hne _ (by omega)), h2.kept hg (hne _ (by omega)), h4.kept hg (hne _ (by omega)), ⟨h5.kept hg (hne _ (by omega)), h6.kept hg (hne _ (by omega))⟩, h7.grown hg (by have := h7.size; omega) (fun k e => by have := (hr _ e).1; omega),
          ⟨h8.1, fun D hD => ⟨(h8.2 D hD).1, (hg.block D (h8.lt D hD) (hne D (by have := hMl D hD; omega))).trans (h8.2 D hD).2⟩⟩, h9⟩)
      (fun c s A B row hs hg hr => by
        obtain ⟨hc, s, q, h1, h2, h3, h7, h8, h9⟩ := hs
        have hne : ∀ b, b < W0.heap.size → some b ≠ row := fun b hb e => by have := (hr _ e.symm).1; omega
        exact ⟨hc, s, q, h1.kept hg (hne _ (by omega)), h2.kept hg (hne _ (by omega)), h3.kept hg (hne _ (by omega)), h7.grown hg (by have := h7.size; omega) (fun k e => by have := (hr _ e).1; omega),
          ⟨h8.1, fun D hD => ⟨(h8.2 D hD).1, (hg.block D (h8.lt D hD) (hne D (by have := hMl D hD; omega))).trans (h8.2 D hD).2⟩⟩, h9⟩)
      ⟨d1, d2, d3, ⟨q1, q2⟩, dB, dM, Lib.hid (fun k hk => by cases hk)⟩
      (fun i => { tmps := #[.string x, u1, .pointer (some ⟨w.heap.size, 0, none⟩), .pointer (some ⟨w.heap.size + 1, 0, none⟩), .pointer (some ⟨w.heap.size + 1 + 1, 0, none⟩), .int .i64 (n : Int), .int .i64 (i.val : Int), .string (x.extract i.val (i.val + n)), u8, u9, u10, u11, u12, .int .i64 (n : Int), .bool true, u15, u16, .string x, .int .i64 (n : Int), .func (.func 155) #[] #[.pointer (some ⟨W.heap.size + 1, 0, none⟩), .pointer (some ⟨W.heap.size, 0, none⟩)], .int .i64 (i.val : Int), .string (x.extract i.val (i.val + n)), u22, u23, u24, u25, u26], defers := [] }) ?assign ?body ?done ?stop
    case assign =>
      intro l i W K hK
      gi_wp2
      exact hK
    case body =>
      rintro l pre i W' ⟨h1, h2, h4, ⟨h5, h6⟩, h7, h8, h9⟩ hlt
      have m1 := h1.lt
      have m2 := h2.lt
      have m4 := h4.lt
      have m5 := h5.lt
      have m6 := h6.lt
      have hin : i.val + n ≤ x.size := by have := i.isLt; omega
      have z1 : (x.extract i.val (i.val + n)).size = n := by simp; omega
      have CP := Lib.hid fun w => isPal_any (x.extract i.val (i.val + n)) w (by omega)
      have ze : (x.extract i.val (i.val + n)).size ≤ 60 := by omega
      by_cases he : palB (bl (x.extract i.val (i.val + n))) = true
      · have HX : Hid (∃ pre' i', pre ++ [i] = pre' ++ [i'] ∧ (∀ k ∈ pre', palB (bl (x.extract k.val (k.val + n))) = false) ∧ palB (bl (x.extract i'.val (i'.val + n))) = true ∧ x.extract i.val (i.val + n) = x.extract i'.val (i'.val + n) ∧ i.val = i'.val) := Lib.hid ⟨pre, i, rfl, h9.out, he, rfl, rfl⟩
        rw [he] at CP
        clear he z1
        generalize x.extract i.val (i.val + n) = y at *
        gi_wp2_with (refine ⟨trivial, ?_⟩; gi_at_call 126; refine (CallsIn.inRound l (callsIn_wide.2 (CP.out _))).mono ?_; rintro e w2 ⟨rfl, B2⟩)
        gi_wp2_with (refine ⟨trivial, ?_⟩; gi_at_call 105; refine (CallsIn.inRound l (callsIn_wide.2 (strings_Clone _ _ (by omega)))).mono ?_; rintro e w3 ⟨rfl, b3⟩; have B3 := B2.then b3; have v1 : Boxed w3 w.heap.size 9 (.string ⟨#[]⟩) := (B3.block _ m1).trans h1; have v2 : Boxed w3 (w.heap.size + 1) 2 (.int .i64 0) := (B3.block _ m2).trans h2; have v3 : Boxed w3 (w.heap.size + 1 + 1) 2 (.int .i64 0) := (B3.block _ m4).trans h4; have e1 := v1.cell; have e2 := v2.cell; have e3 := v3.cell; have g1 := v1.frozen; have g2 := v2.frozen; have g3 := v3.frozen)
        obtain ⟨t1, t2, t3, tB, t4, t5⟩ := three_boxes (x := .string y) (x' := .int .i64 (i.val : Int)) (x'' := .int .i64 0) v1 v2 v3 (h7.then B3) (Nat.le_refl _) rfl
        have hM3 := h8.old (W' := w3) fun b hb => B3.block b hb
        exact ⟨KeepsFrom.trans ⟨B3.size, fun k o _ hk _ => (B3.block k (Array.getElem?_eq_some_iff.1 hk).1).trans hk⟩ (t4 _ (by omega)), rfl, y, i.val, t1, t2, t3, tB, ⟨hM3.1, fun D hD => ⟨(hM3.2 D hD).1, (t5 D (hM3.lt D hD) (fun e => hM3.not_box v1 (e ▸ hD)) (fun e => hM3.not_box v2 (e ▸ hD)) (fun e => hM3.not_box v3 (e ▸ hD))).trans (hM3.2 D hD).2⟩⟩, HX⟩
      · have he2 : palB (bl (x.extract i.val (i.val + n))) = false := by simpa using he
        have HM2 : Hid (∀ k ∈ pre ++ [i], palB (bl (x.extract k.val (k.val + n))) = false) := Lib.hid fun k hk => by
          rcases List.mem_append.1 hk with h | h
          · exact h9.out k h
          · rw [List.mem_singleton.1 h]; exact he2
        rw [he2] at CP
        clear he he2 z1
        generalize x.extract i.val (i.val + n) = y at *
        gi_wp2_with (refine ⟨trivial, ?_⟩; gi_at_call 126; refine (CallsIn.inRound l (callsIn_wide.2 (CP.out _))).mono ?_; rintro e w2 ⟨rfl, B2⟩)
        have kb : ∀ b, b < W'.heap.size → w2.heap[b]? = W'.heap[b]? := fun b hb => B2.block b hb
        have h7s := h7.size
        exact ⟨⟨B2.size, fun k o _ hk _ => (kb k (Array.getElem?_eq_some_iff.1 hk).1).trans hk⟩, ⟨B2.mono h7s, kb _ m5, kb _ m6⟩, (kb _ m1).trans h1, (kb _ m2).trans h2, (kb _ m4).trans h4, ⟨(kb _ m5).trans h5, (kb _ m6).trans h6⟩, h7.then B2, h8.old kb, HM2⟩
    case done =>
      rintro D ys W' hD hys ⟨h1, h2, h4, ⟨h5, h6⟩, h7, h8, h9⟩ hKD
      have m1 := h1.lt
      have m2 := h2.lt
      have h7s := h7.size
      have HN : Hid (lgF x (n - 1) = (R, pl)) := Lib.hid (by
        rw [← HR.out]
        refine (lgF_miss (by omega) (piI_none _ _ fun k _ hk => ?_)).symm
        have hk2 : k < x.size + 1 - n := by omega
        exact h9.out ⟨k, hk2⟩ (by
          have h10 : k ∈ ys.map Fin.val := by rw [hys]; exact List.mem_range.2 hk2
          obtain ⟨q, hq1, hq2⟩ := List.mem_map.1 h10
          have : q = ⟨k, hk2⟩ := Fin.ext hq2
          rw [← this]; exact hq1))
      clear h9
      gi_wp2
      refine Handed.intro g (by omega) (hJ _ _ _ ⟨_, _, _, _, _, _, _, _, _, _, _, _, _, _, _, _, _, _, _, _, _, _, _, n - 1, D :: Ds, rfl, by congr 1; omega, by omega, by omega, h1, h2, h4, h7, ?_, HN⟩)
      · exact MarksAt.cons h8 (by omega) hKD fun hm => by have := hMl D hm; omega
    case stop =>
      rintro D c pre W' hD ⟨j, hj, hpre⟩ ⟨rfl, s, q, h1, h2, h3, h7, h8, h9⟩ hKD
      have hs : (R, pl) = (s, q) := by
        obtain ⟨pre', i, rfl, hmiss, hhit, rfl, rfl⟩ := h9.out
        rw [← HR.out]
        rw [List.map_append] at hpre
        have hjl : j = pre'.length + 1 := by have := congrArg List.length hpre; simpa using this.symm
        subst hjl
        rw [List.range_succ] at hpre
        have hq := List.append_inj hpre (by simp)
        have hi : i.val = pre'.length := by have := hq.2; simpa using this
        refine lgF_hit (by omega) (piI_some hhit _ _ (Nat.zero_le _) (by have := i.isLt; omega) fun k _ hk => ?_)
        have hk2 : k ∈ pre'.map Fin.val := by rw [hq.1]; exact List.mem_range.2 (by omega)
        obtain ⟨q, hq1, hq2⟩ := List.mem_map.1 hk2
        rw [← hq2]
        exact hmiss q hq1
      obtain ⟨rfl, rfl⟩ := Prod.mk.inj hs
      gi_wp2
      exact leaves_marks (fun W => Boxed W w.heap.size 9 (.string R) ∧ Boxed W (w.heap.size + 1) 2 (.int .i64 (pl : Int)) ∧ Boxed W (w.heap.size + 1 + 1) 2 (.int .i64 0) ∧ Below w.heap.size w W)
        (fun W hW => ⟨_, results_boxes3 Try.results61 rfl rfl rfl Try.isAgg9 Try.isAgg2 Try.isAgg2 hW.1.cell hW.2.1.cell hW.2.2.1.cell, rfl, hW.2.2.2⟩)
        (D :: Ds) W' w.heap.size (MarksAt.cons h8 (by omega) hKD (fun hm => by have := hMl D hm; omega)) (lg_step w R _ _) ⟨h1, h2, h3, h7⟩
  · exfalso
    obtain rfl : n = 0 := by omega
    have e := HR.out
    rw [show lgF x 0 = (⟨#[]⟩, 0) from rfl] at e
    have h9 : (0 : Nat) = R.size := congrArg (fun p : ByteArray × Nat => p.1.size) e
    omega

set_option maxRecDepth 100000 in
theorem impl_LongestPalindrome (x : ByteArray) (w : World) (sx : x.size ≤ maxLen) :
    Calls Try.prog 61 #[.string x] w fun e w' => e = .returned (.tuple #[.string (lgR x).1, .int .i64 (lgR x).2.1, .int .i64 (lgR x).2.2]) ∧ Below w.heap.size w w' := by
  by_cases h : IsW x
  · by_cases h0 : x.size = 0
    · rw [lgR_nil h h0]
      have H := Lib.hid h
      have h0i : (x.size : Int) = 0 := by omega
      clear h
      go_enter Try.func61, Try.ntmps61
      go_wp2_with (go_at_call 85; refine (isWord_yes x _ H.out).mono ?_; rintro e w1 ⟨rfl, b1⟩; obtain ⟨v1, v2, v3, hB, hz⟩ := lg_boxes b1; have c1 := v1.cell; have c2 := v2.cell; have c3 := v3.cell; have f1 := v1.frozen; have f2 := v2.frozen; have f3 := v3.frozen)
      refine wp_loop_rounds 1 ?_
      rw [rounds_succ]
      go_wp2
      obtain ⟨t1, t2, t3, tB, _, _⟩ := three_boxes (x := .string ⟨#[]⟩) (x' := .int .i64 0) (x'' := .int .i64 5) v1 v2 v3 hB (Nat.le_refl _) rfl
      exact bodyPost_ret (results_boxes3 Try.results61 rfl rfl rfl Try.isAgg9 Try.isAgg2 Try.isAgg2 t1.cell t2.cell t3.cell) rfl ⟨rfl, tB⟩
    · rw [lgR_ok h h0]
      exact callsIn_wide.1 (impl_Lg_ok x _ _ w h h0 (lgF_pos (by omega) x.size (by omega)) rfl)
  · rw [lgR_bad h]
    have H := Lib.hid h
    clear h
    go_enter Try.func61, Try.ntmps61
    go_wp2_with (go_at_call 85; refine (isWord_not x _ sx H.out).mono ?_; rintro e w1 ⟨rfl, b1⟩; obtain ⟨v1, v2, v3, hB, hz⟩ := lg_boxes b1; have c1 := v1.cell; have c2 := v2.cell; have c3 := v3.cell; have f1 := v1.frozen; have f2 := v2.frozen; have f3 := v3.frozen)
    obtain ⟨t1, t2, t3, tB, _, _⟩ := three_boxes (x := .string ⟨#[]⟩) (x' := .int .i64 0) (x'' := .int .i64 1) v1 v2 v3 hB (Nat.le_refl _) rfl
    exact bodyPost_ret (results_boxes3 Try.results61 rfl rfl rfl Try.isAgg9 Try.isAgg2 Try.isAgg2 t1.cell t2.cell t3.cell) rfl ⟨rfl, tB⟩

end Go.Proofs.Ythjbdcoklgnnlab
