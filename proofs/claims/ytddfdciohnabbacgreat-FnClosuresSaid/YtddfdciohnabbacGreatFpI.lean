/- The fewest palindromic parts: the program. -/
import Derived.Test.YtddfdciohnabbacGreatFw
import Derived.Test.YtddfdciohnabbacGreatStrs
import Derived.Test.YtddfdciohnabbacGreatWord
import Derived.Test.YtddfdciohnabbacGreatLib
namespace Go.Proofs.YtddfdciohnabbacGreat
set_option linter.unusedVariables false
set_option linter.unusedSimpArgs false
open Go.RowKit Go.Shelf
attribute [local go_sem] Oper.semAt_some

/-- What is left of a region is done in the order of the text. -/
theorem anyIn_drop {F : Fence} {n : Nat} {P : Program} {ops : Array Oper} {md : Region.Mode} {Q' : Exit → Act → World → Prop} (k g : Nat) (hg : g = ops.size - k) (hk : k ≤ ops.size) (listed : Array Bool) (a : Act) (w : World)
    (hB : Region.seqB md ops (ops.size - k) k listed = true) (h : wpListIn F n P ops Q' (ops.toList.drop k) a w) : wpAnyIn F n P md ops Q' g listed a w := by
  have hl : (ops.toList.drop k).length = ops.size - k := by simp
  subst hg
  have := anyIn_seq (F := F) (n := n) (P := P) (ops := ops) (md := md) (Q' := Q') (ops.toList.drop k) k listed a w (fun j => by simp [List.getElem?_drop]) (by rw [hl]; exact hB) h
  rwa [hl] at this

theorem nxS_eq {x : ByteArray} {i j : Nat} (hj : palS x i j = true ∧ fF x i = fF x j + 1) (hij : i < j) : ∀ k, j ≤ k → (∀ t, j < t → t ≤ k → ¬ (palS x i t = true ∧ fF x i = fF x t + 1)) → nxS x i k = j
  | 0, h, _ => by omega
  | k + 1, h, hm => by
    by_cases e : j = k + 1
    · subst e; exact nxS_hit hj
    · rw [nxS_miss (hm (k + 1) (by omega) (Nat.le_refl _))]
      exact nxS_eq hj hij k (by omega) fun t h1 h2 => hm t h1 (by omega)

theorem tosL_desc (x : ByteArray) (i : Nat) : ∀ f, (tosL x i f).Pairwise (fun a b => b < a)
  | 0 => List.Pairwise.nil
  | f + 1 => by
    rw [tosL]
    split
    · exact List.pairwise_cons.2 ⟨fun a ha => by have := ((mem_tosL x i a f).1 ha).2.1; omega, tosL_desc x i f⟩
    · exact tosL_desc x i f
theorem nx_found {x : ByteArray} {i j : Nat} {pre rest : List Nat} (h : pre ++ j :: rest = tosL x i (x.size - i)) (hj : fF x i = fF x j + 1) (hm : ∀ k ∈ pre, ¬ fF x i = fF x k + 1) : nx x i = j := by
  have hmem : j ∈ tosL x i (x.size - i) := by rw [← h]; simp
  obtain ⟨h1, h2, h3⟩ := (mem_tosL x i j _).1 hmem
  have hd := tosL_desc x i (x.size - i)
  rw [← h] at hd
  refine nxS_eq ⟨h3, hj⟩ h1 _ (by omega) fun t t1 t2 ht => ?_
  have htm : t ∈ tosL x i (x.size - i) := (mem_tosL x i t _).2 ⟨by omega, by omega, ht.1⟩
  rw [← h] at htm
  rcases List.mem_append.1 htm with q | q
  · exact hm t q ht.2
  · rcases List.mem_cons.1 q with rfl | q
    · omega
    · have := (List.pairwise_cons.1 (List.pairwise_append.1 hd).2.1).1 t q
      omega

theorem row_cells {w : World} {B n : Nat} {e : TypeId} {v : Value} {xs : List Value} (h : w.ownsRow B e 1 v n xs) {b : Nat} {o : Obj} (hb : w.heap[b]? = some o) (ho : o.isCells = false) : v.ownBlock ≠ some b := by
  obtain ⟨hl, h1 | ⟨g, cap, cur, rfl, hg, hh, r⟩⟩ := h
  · obtain ⟨rfl, _⟩ := h1
    intro e
    cases e
  · intro e
    have : g = b := by simpa [Value.ownBlock] using e
    subst this
    rw [hb] at hh
    cases hh
    cases ho
theorem box_cells {w : World} {B b : Nat} {t : TypeId} {v : Value} {o : Obj} (h : Boxed w B t v) (hb : w.heap[b]? = some o) (ho : o.isCells = false) : b ≠ B := by
  rintro rfl
  have h2 : w.heap[b]? = _ := h
  rw [h2] at hb
  cases hb
  cases ho
theorem row_mv {w w' : World} {B n : Nat} {e : TypeId} {v : Value} {xs : List Value} {row : Option Nat} (h : w.ownsRow B e 1 v n xs) (hg : w.grownBy w' row) (hr : ∀ r, row = some r → ∃ o : Obj, w.heap[r]? = some o ∧ o.isCells = false) : w'.ownsRow B e 1 v n xs := h.kept hg (by
  cases hq : v.ownBlock with
  | none => exact .inl rfl
  | some q =>
    refine .inr fun e => ?_
    obtain ⟨o, ho, hc⟩ := hr q e.symm
    exact row_cells h ho hc hq)
theorem box_mv {w w' : World} {B : Nat} {t : TypeId} {v : Value} {row : Option Nat} (h : Boxed w B t v) (hg : w.grownBy w' row) (hr : ∀ r, row = some r → ∃ o : Obj, w.heap[r]? = some o ∧ o.isCells = false) : Boxed w' B t v := h.kept hg (fun e => by
  obtain ⟨o, ho, hc⟩ := hr B e.symm
  exact box_cells h ho hc rfl)
theorem marks_mv {w w' : World} {lo B : Nat} {Ds : List Nat} {row : Option Nat} (h : MarksAt w lo Ds) (hg : w.grownBy w' row) (hD : ∀ D ∈ Ds, D < B) (hr : ∀ r, row = some r → B ≤ r) : MarksAt w' lo Ds :=
  ⟨h.1, fun D hd => ⟨(h.2 D hd).1, (hg.block D (h.lt D hd) (fun e => by have := hr D e.symm; have := hD D hd; omega)).trans (h.2 D hd).2⟩⟩
/-- One more part is laid in the box, and the place behind it: what is no list of values stays. -/
theorem part_keeps {V w2 w4 : World} {b5 b6 n : Nat} {tmp : Obj} {v v' u : Value} (b2 : Below n V w2) (hV : V.heap.size ≤ n) (hg : (w2.alloc tmp).grownBy w4 v.ownBlock) {b : Nat} {o : Obj} (hb : V.heap[b]? = some o) (h1 : v.ownBlock ≠ some b) (h5 : b ≠ b5) (h6 : b ≠ b6) :
    ((w4.setCell ⟨b5, 0, none⟩ v').setCell ⟨b6, 0, none⟩ u).heap[b]? = some o := by
  have hlt := (Array.getElem?_eq_some_iff.1 hb).1
  have e2 := b2.block b (by omega)
  have hb2 : w2.heap[b]? = some o := e2.trans hb
  have hlt2 := (Array.getElem?_eq_some_iff.1 hb2).1
  have e3 := Below.heap_alloc w2 tmp b hlt2
  have e4 := hg.block b (by simp; omega) (fun e => h1 e.symm)
  have hb4 : w4.heap[b]? = some o := (e4.trans e3).trans hb2
  have hlt4 := (Array.getElem?_eq_some_iff.1 hb4).1
  have e5 := (grownBy_setCell' w4 b5 v').block b hlt4 (fun e => h5 (Option.some.inj e))
  have e6 := (grownBy_setCell' (w4.setCell ⟨b5, 0, none⟩ v') b6 u).block b (by simpa [World.setCell] using hlt4) (fun e => h6 (Option.some.inj e))
  exact (e6.trans e5).trans hb4

theorem row9_kept {V W6 : World} {B g0 n b5 b6 : Nat} {e : TypeId} {v : Value} {xs : List Value} (h : V.ownsRow B e 1 (.slice (some ⟨g0, 0, none⟩) n n) n xs)
    (G6 : ∀ b o, V.heap[b]? = some o → v.ownBlock ≠ some b → b ≠ b5 → b ≠ b6 → W6.heap[b]? = some o) (h1 : v.ownBlock = some g0 → False) (h5 : g0 = b5 → False) (h6 : g0 = b6 → False) : W6.ownsRow B e 1 (.slice (some ⟨g0, 0, none⟩) n n) n xs := by
  obtain ⟨hl, h0 | ⟨g, cap, cur, he, hg, hh, r⟩⟩ := h
  · exact ⟨hl, .inl h0⟩
  · cases he
    exact ⟨hl, .inr ⟨g0, _, cur, rfl, hg, G6 _ _ hh h1 h5 h6, r⟩⟩

/-- How the parts stand at the head of a round. -/
def FpAt (x : ByteArray) (w : World) (g0 nB B4 B5 : Nat) (gk : Nat) (a : Act) (W : World) : Prop :=
  ∃ (u1 u2 u3 u7 u8 u9 u10 u11 u12 u13 u14 u15 u16 u17 u18 u19 u20 u21 u22 u23 u24 u25 u26 u27 u28 u29 u30 u31 u32 u33 u34 u35 u36 u37 u38 u39 u40 u41 u42 : Value) (i B6 : Nat) (v : Value) (L : List ByteArray) (Ds : List Nat), a = { tmps := #[.string x, u1, u2, u3, .pointer (some ⟨B4, 0, none⟩), .pointer (some ⟨B5, 0, none⟩), .pointer (some ⟨B6, 0, none⟩), u7, u8, u9, u10, u11, u12, u13, u14, u15, u16, u17, u18, u19, u20, u21, u22, u23, u24, u25, u26, u27, u28, u29, u30, u31, u32, u33, u34, u35, u36, u37, u38, u39, u40, u41, u42], defers := Ds.map mkD } ∧ x.size - i ≤ gk ∧ i ≤ x.size ∧
    Boxed W B4 42 (.slice (some ⟨g0, 0, none⟩) (x.size + 1) (x.size + 1)) ∧ Boxed W B5 25 v ∧ Boxed W B6 3 (.int .i64 (i : Int)) ∧ nB ≤ B6 + 1 ∧ nB ≤ W.heap.size ∧
    W.ownsRow w.heap.size 2 1 (.slice (some ⟨g0, 0, none⟩) (x.size + 1) (x.size + 1)) (x.size + 1) ((fL x 0).map (Value.int .i64)) ∧
    OwnS W nB v L ∧ Hid (L ++ pt x i = pt x 0) ∧ Below w.heap.size w W ∧ MarksAt W nB Ds

set_option maxRecDepth 100000 in
set_option maxHeartbeats 4000000 in
theorem impl_Fp_ok (x : ByteArray) (w : World) (h : IsW x) :
    CallsIn Fence.wide 5 Tryz.prog 6 #[.string x] w (RetS (pt x 0) 0 w) := by
  obtain ⟨i0, hi, hy0, hy1, hy2⟩ := info_parts infoStr
  have hx := h.size
  have hmo : Tryz.prog.follows .mixedOrders = true := by kernel_rfl
  have H := Lib.hid h
  clear h
  refine callsIn_of_wp_marks Tryz.func6 rfl trivial ?_ rfl
  simp only [Tryz.ntmps6, List.size_toArray, List.length_cons, List.length_nil, Nat.reduceAdd, Nat.reduceSub, Array.replicate_succ, Array.replicate_zero, List.push_toArray, List.append_toArray, List.nil_append, List.cons_append]
  gi_wp2_with (refine ⟨trivial, ?_⟩; first | (gi_at_call 27; refine (callsIn_wide.2 (isWord_yes x _ H.out)).mono ?_; rintro e w1 ⟨rfl, b1⟩) | (gi_at_call 28; refine (fewestFrom_in x _ hx).mono ?_; rintro e w2 ⟨rfl, r2, b2, l2⟩))
  have hz1 := b1.size
  have hz2' := b2.size
  have v4 : Boxed (((w2.alloc (.cells #[.slice (some ⟨w1.heap.size, 0, none⟩) (x.size + 1) (x.size + 1)] 42)).alloc (.cells #[.slice none 0 0] 25)).alloc (.cells #[.int .i64 0] 3)) w2.heap.size 42 (.slice (some ⟨w1.heap.size, 0, none⟩) (x.size + 1) (x.size + 1)) := ((Boxed.new w2 _ _).alloc _).alloc _
  have v5 : Boxed (((w2.alloc (.cells #[.slice (some ⟨w1.heap.size, 0, none⟩) (x.size + 1) (x.size + 1)] 42)).alloc (.cells #[.slice none 0 0] 25)).alloc (.cells #[.int .i64 0] 3)) (w2.heap.size + 1) 25 (.slice none 0 0) := by
    have := Boxed.new (w2.alloc (.cells #[.slice (some ⟨w1.heap.size, 0, none⟩) (x.size + 1) (x.size + 1)] 42)) 25 (.slice none 0 0)
    rw [World.size_alloc] at this
    exact this.alloc _
  have v6 : Boxed (((w2.alloc (.cells #[.slice (some ⟨w1.heap.size, 0, none⟩) (x.size + 1) (x.size + 1)] 42)).alloc (.cells #[.slice none 0 0] 25)).alloc (.cells #[.int .i64 0] 3)) (w2.heap.size + 1 + 1) 3 (.int .i64 0) := by
    have := Boxed.new ((w2.alloc (.cells #[.slice (some ⟨w1.heap.size, 0, none⟩) (x.size + 1) (x.size + 1)] 42)).alloc (.cells #[.slice none 0 0] 25)) 3 (.int .i64 0)
    rwa [World.size_alloc, World.size_alloc] at this
  have hB0 := (((b1.then b2).alloc (by omega) (.cells #[.slice (some ⟨w1.heap.size, 0, none⟩) (x.size + 1) (x.size + 1)] 42)).alloc (by simp; omega) (.cells #[.slice none 0 0] 25)).alloc (by simp; omega) (.cells #[.int .i64 0] 3)
  have hr0 := (((own_base r2 hz1).alloc (.cells #[.slice (some ⟨w1.heap.size, 0, none⟩) (x.size + 1) (x.size + 1)] 42)).alloc (.cells #[.slice none 0 0] 25)).alloc (.cells #[.int .i64 0] 3)
  have hs3 : (((w2.alloc (.cells #[.slice (some ⟨w1.heap.size, 0, none⟩) (x.size + 1) (x.size + 1)] 42)).alloc (.cells #[.slice none 0 0] 25)).alloc (.cells #[.int .i64 0] 3)).heap.size = w2.heap.size + 3 := by simp
  refine wpIn_loop_ghost_k (fun n a W => FpAt x w w1.heap.size (w2.heap.size + 3) w2.heap.size (w2.heap.size + 1) n a W) x.size ⟨_, _, _, _, _, _, _, _, _, _, _, _, _, _, _, _, _, _, _, _, _, _, _, _, _, _, _, _, _, _, _, _, _, _, _, _, _, _, _, 0, w2.heap.size + 1 + 1, _, [], [], rfl, by omega, by omega, v4, v5, v6, by omega, by omega, hr0, OwnS.nil _ _, Lib.hid rfl, hB0, MarksAt.nil _ _⟩ ?_
  clear v4 v5 v6 hB0 hr0 hs3 r2 b2 b1
  generalize w1.heap.size = g0 at *
  generalize hB4e : w2.heap.size = B4 at *
  intro gk a W hI J K hJ hK
  obtain ⟨u1, u2, u3, u7, u8, u9, u10, u11, u12, u13, u14, u15, u16, u17, u18, u19, u20, u21, u22, u23, u24, u25, u26, u27, u28, u29, u30, u31, u32, u33, u34, u35, u36, u37, u38, u39, u40, u41, u42, i, B6, v, L, Ds, rfl, hgk, hix, v4, v5, v6, hB6, hnW, hr, hown, HL, hB, hM⟩ := hI
  have c4 := v4.cell
  have c5 := v5.cell
  have c6 := v6.cell
  have hbz := hB.size
  have l4 := v4.lt
  have l5 := v5.lt
  have l6 := v6.lt
  by_cases hp : i < x.size
  · obtain ⟨g, rfl⟩ : ∃ g, gk = g + 1 := ⟨gk - 1, by omega⟩
    have hpi : (i : Int) < (x.size : Int) := by omega
    gi_wp2_with (refine ⟨trivial, ?_⟩; gi_at_call 29; refine (palindromesAt_in _ _ _ _).mono ?_; rintro e w3 ⟨rfl, rfl⟩)
    have q1 : Boxed ((W.alloc (.cells #[.string x] 9)).alloc (.cells #[.int .i64 (i : Int)] 3)) W.heap.size 9 (.string x) := (Boxed.new W _ _).alloc _
    have q2 : Boxed ((W.alloc (.cells #[.string x] 9)).alloc (.cells #[.int .i64 (i : Int)] 3)) (W.heap.size + 1) 3 (.int .i64 (i : Int)) := by
      have := Boxed.new (W.alloc (.cells #[.string x] 9)) 3 (.int .i64 (i : Int))
      rwa [World.size_alloc] at this
    have d4 := (v4.alloc (.cells #[.string x] 9)).alloc (.cells #[.int .i64 (i : Int)] 3)
    have d5 := (v5.alloc (.cells #[.string x] 9)).alloc (.cells #[.int .i64 (i : Int)] 3)
    have d6 := (v6.alloc (.cells #[.string x] 9)).alloc (.cells #[.int .i64 (i : Int)] 3)
    have dr := (hr.alloc (.cells #[.string x] 9)).alloc (.cells #[.int .i64 (i : Int)] 3)
    have dow : OwnS ((W.alloc (.cells #[.string x] 9)).alloc (.cells #[.int .i64 (i : Int)] 3)) (B4 + 3) v L := World.ownsRow.alloc (World.ownsRow.alloc hown (.cells #[.string x] 9)) (.cells #[.int .i64 (i : Int)] 3)
    have dB := (hB.alloc hbz (.cells #[.string x] 9)).alloc (by simp; omega) (.cells #[.int .i64 (i : Int)] 3)
    have hs0 : ((W.alloc (.cells #[.string x] 9)).alloc (.cells #[.int .i64 (i : Int)] 3)).heap.size = W.heap.size + 2 := by simp
    have dM : MarksAt ((W.alloc (.cells #[.string x] 9)).alloc (.cells #[.int .i64 (i : Int)] 3)) (B4 + 3) Ds := hM.keep fun b o hb _ => by
      have hlt := (Array.getElem?_eq_some_iff.1 hb).1
      rw [Below.heap_alloc _ _ b (by simp; omega), Below.heap_alloc _ _ b hlt]
      exact hb
    have hMl := hM.lt
    have hvl := World.ownsRow.lt hown
    generalize hW0 : (W.alloc (.cells #[.string x] 9)).alloc (.cells #[.int .i64 (i : Int)] 3) = W0 at q1 q2 d4 d5 d6 dr dow dB hs0 dM ⊢
    clear hW0 v4 v5 v6 hr hown hB hM c4 c5 c6
    have hmi := Lib.hid fun j => mem_tosL x i j (x.size - i)
    refine wpIn_rangeFunc_ownG rfl (by decide) (gf := 49) (lb := #[.pointer (some ⟨W.heap.size, 0, none⟩), .pointer (some ⟨W.heap.size + 1, 0, none⟩)]) rfl trivial (enters_of Tryz.func49 (by kernel_rfl) rfl)
      (palsT_stops 4 (by decide) W.heap.size (W.heap.size + 1) w.heap.size x i hx (by omega) W0 q1 q2) kpF_t (kpF_b (by omega) (by omega) (by omega)) (Below.refl _ _) (fun _ => rfl)
      (fun pre W' => Boxed W' B4 42 (.slice (some ⟨g0, 0, none⟩) (x.size + 1) (x.size + 1)) ∧ Boxed W' (B4 + 1) 25 v ∧ Boxed W' B6 3 (.int .i64 (i : Int)) ∧ (Boxed W' W.heap.size 9 (.string x) ∧ Boxed W' (W.heap.size + 1) 3 (.int .i64 (i : Int))) ∧
        W'.ownsRow w.heap.size 2 1 (.slice (some ⟨g0, 0, none⟩) (x.size + 1) (x.size + 1)) (x.size + 1) ((fL x 0).map (Value.int .i64)) ∧ OwnS W' (B4 + 3) v L ∧ Below w.heap.size w W' ∧ MarksAt W' (B4 + 3) Ds ∧ Hid (∀ k ∈ pre.map Subtype.val, ¬ fF x i = fF x k + 1))
      (fun c pre W' => c = (.exit 2) ∧ ∃ (j : Nat) (v' : Value), i < j ∧ j ≤ x.size ∧ Boxed W' B4 42 (.slice (some ⟨g0, 0, none⟩) (x.size + 1) (x.size + 1)) ∧ Boxed W' (B4 + 1) 25 v' ∧ Boxed W' B6 3 (.int .i64 (j : Int)) ∧
        W'.ownsRow w.heap.size 2 1 (.slice (some ⟨g0, 0, none⟩) (x.size + 1) (x.size + 1)) (x.size + 1) ((fL x 0).map (Value.int .i64)) ∧ OwnS W' (B4 + 3) v' (L ++ [x.extract i j]) ∧ Below w.heap.size w W' ∧ MarksAt W' (B4 + 3) Ds ∧ W0.heap.size ≤ W'.heap.size ∧ Hid (fF x i = fF x j + 1 ∧ ∃ pre', pre.map Subtype.val = pre' ++ [j] ∧ ∀ k ∈ pre', ¬ fF x i = fF x k + 1))
      (fun s A B row hs hg hr => by
        obtain ⟨h4, h5, h6, ⟨h7, h8⟩, h9, h10, h11, h12, h13⟩ := hs
        have hr2 := fun r e => (hr r e).2
        exact ⟨box_mv h4 hg hr2, box_mv h5 hg hr2, box_mv h6 hg hr2, ⟨box_mv h7 hg hr2, box_mv h8 hg hr2⟩, row_mv h9 hg hr2, row_mv h10 hg hr2, h11.grown hg (by have := h11.size; omega) (fun k e => by have := (hr _ e).1; omega),
          marks_mv h12 hg (fun D hd => by have := hMl D hd; omega) (fun r e => (hr r e).1), h13⟩)
      (fun c s A B row hs hg hr => by
        obtain ⟨hc, j, v', k1, k2, h4, h5, h6, h9, h10, h11, h12, hsz, h13⟩ := hs
        have hr2 := fun r e => (hr r e).2
        exact ⟨hc, j, v', k1, k2, box_mv h4 hg hr2, box_mv h5 hg hr2, box_mv h6 hg hr2, row_mv h9 hg hr2, row_mv h10 hg hr2, h11.grown hg (by have := h11.size; omega) (fun k e => by have := (hr _ e).1; omega),
          marks_mv h12 hg (fun D hd => by have := hMl D hd; omega) (fun r e => (hr r e).1), Nat.le_trans hsz hg.size, h13⟩)
      ⟨d4, d5, d6, ⟨q1, q2⟩, dr, dow, dB, dM, Lib.hid (fun k hk => by simp at hk)⟩
      (fun j => { tmps := #[.string x, u1, u2, u3, .pointer (some ⟨B4, 0, none⟩), .pointer (some ⟨B4 + 1, 0, none⟩), .pointer (some ⟨B6, 0, none⟩), .string (x.extract i j.1), u8, u9, u10, u11, u12, u13, .int .i64 (i : Int), .string x, .int .i64 (x.size : Int), .bool true, .string x, .int .i64 (i : Int), .func (.func 49) #[] #[.pointer (some ⟨W.heap.size, 0, none⟩), .pointer (some ⟨W.heap.size + 1, 0, none⟩)], .string (x.extract i j.1), u22, u23, u24, u25, u26, u27, u28, u29, u30, u31, u32, u33, u34, u35, u36, u37, u38, u39, u40, u41, u42], defers := [] }) ?assign ?body ?done ?stop
    case assign =>
      intro l j W K hK
      gi_wp2
      first
        | exact hK
        | (go_simp; exact hK)
        | simpa using hK
    case body =>
      rintro l pre ⟨j, hjm⟩ W' ⟨h4, h5, h6, ⟨h7, h8⟩, h9, h10, h11, h12, h13⟩ hlt
      have hLl : L.length ≤ 60 := by have h1 := congrArg List.length HL.out; have h2 := pt_len x _ 0 (Nat.le_refl _); rw [List.length_append] at h1; omega
      obtain ⟨hij, hjs, hjp⟩ := (hmi.out j).1 hjm
      have c4 := h4.cell
      have c5 := h5.cell
      have c6 := h6.cell
      have f5 := h5.frozen
      have f6 := h6.frozen
      have m4 := h4.lt
      have m5 := h5.lt
      have m6 := h6.lt
      have m7 := h7.lt
      have m8 := h8.lt
      have ci := fL_cell h9 (Nat.zero_le i) (by omega)
      have cj := fL_cell h9 (Nat.zero_le j) (by omega)
      have hz : (x.extract i j).size = j - i := by simp; omega
      have hji : (j : Int) < (x.size : Int) + 1 := by omega
      have hii : (i : Int) < (x.size : Int) + 1 := by omega
      have wq3 : IntKind.i64.wrap ((i : Int) + ((x.extract i j).size : Int)) = (j : Int) := by rw [hz, show (i : Int) + ((j - i : Nat) : Int) = (j : Int) by omega]; exact IntWalk.i64_in _ (by omega)
      have hfle := fF_le x hij (by omega) hjp
      by_cases hbr : fF x i = fF x j + 1
      · have hlf : (fF x j : Int) < (fF x i : Int) := by omega
        have HST : Hid (fF x i = fF x j + 1 ∧ ∃ pre', (pre ++ [(⟨j, hjm⟩ : { j : Nat // j ∈ tosL x i (x.size - i) })]).map Subtype.val = pre' ++ [j] ∧ ∀ k ∈ pre', ¬ fF x i = fF x k + 1) := Lib.hid ⟨hbr, pre.map Subtype.val, by rw [List.map_append]; rfl, h13.out⟩
        have hys : (x.extract i j).size ≤ 60 := by omega
        obtain ⟨fi, hfi⟩ : ∃ q, fF x i = q := ⟨_, rfl⟩
        obtain ⟨fj, hfj⟩ : ∃ q, fF x j = q := ⟨_, rfl⟩
        obtain ⟨y, hy⟩ : ∃ q, x.extract i j = q := ⟨_, rfl⟩
        rw [hfi] at ci hlf
        rw [hfj] at cj hlf
        rw [hy] at hz wq3 hys
        rw [hy]
        have HY := Lib.hid hy
        clear hz hjp hbr hfle hfi hfj hy
        gi_wp2
        refine wpIn_region_tailR 8 hmo (by kernel_rfl) (by kernel_rfl) ?_
        simp only [List.take_succ_cons, List.take_zero, List.drop_succ_cons, List.drop_zero]
        repeat still_step
        try refine wpStill_nil ?_
        change wpListIn _ _ _ _ _ _ _ W'.drew
        gi_wp2
        refine wpIn_region_out rfl hmo (by kernel_rfl) ?_
        have d4 : Boxed W'.drew.drew B4 42 (.slice (some ⟨g0, 0, none⟩) (x.size + 1) (x.size + 1)) := h4
        have d5 : Boxed W'.drew.drew (B4 + 1) 25 v := h5
        have d6 : Boxed W'.drew.drew B6 3 (.int .i64 (i : Int)) := h6
        have d7 : Boxed W'.drew.drew W.heap.size 9 (.string x) := h7
        have d8 : Boxed W'.drew.drew (W.heap.size + 1) 3 (.int .i64 (i : Int)) := h8
        have d9 : W'.drew.drew.ownsRow w.heap.size 2 1 (.slice (some ⟨g0, 0, none⟩) (x.size + 1) (x.size + 1)) (x.size + 1) ((fL x 0).map (Value.int .i64)) := own_below h9 ((Below.refl _ _).drew.drew)
        have d10 : OwnS W'.drew.drew (B4 + 3) v L := h10.below ((Below.refl _ _).drew.drew)
        have d11 : Below w.heap.size w W'.drew.drew := h11.drew.drew
        have d12 : MarksAt W'.drew.drew (B4 + 3) Ds := h12
        have dG : W'.grownBy W'.drew.drew none := ⟨rfl, rfl, rfl, Nat.le_refl _, fun _ _ _ => rfl⟩
        have hVs : W'.drew.drew.heap.size = W'.heap.size := rfl
        generalize W'.drew.drew = V at d4 d5 d6 d7 d8 d9 d10 d11 d12 dG hVs ⊢
        have c5 := d5.cell
        rw [← hVs] at m4 m5 m6 m7 m8
        refine wpAnyIn_take (i := 1) (v := .string y) rfl rfl (by kernel_rfl) (by kernel_rfl) (by kernel_rfl) (fun _ _ _ h => h) ⟨Or.inl ⟨by rfl, (by intro w; go_simp)⟩, fun _ => rfl⟩ ?_
        refine wpAnyIn_ready (rs := [0, 2]) (by kernel_rfl) (by simp) ?_
        refine AllReadyIn.cons rfl (fun K hK => ?_) ?_
        · go_simp
          refine hK _ _ ?_
          clear hK K
          refine wpAnyIn_ready (rs := [2]) (by kernel_rfl) (by simp) ?_
          refine AllReadyIn.cons rfl (fun K hK => ?_) ?_
          · go_simp
            gi_wp2_with (refine ⟨trivial, ?_⟩; gi_at_call 30; refine (callsIn_wide.2 (strings_Clone _ _ (by omega))).mono ?_; rintro e w2 ⟨rfl, b2⟩)
            refine anyIn_drop 3 _ rfl (by decide) _ _ _ (by kernel_rfl) ?_
            have r5 : Boxed w2 (B4 + 1) 25 v := (b2.block _ (by omega)).trans d5
            have r6 : Boxed w2 B6 3 (.int .i64 (i : Int)) := (b2.block _ (by omega)).trans d6
            have r9 := own_below d9 b2
            have r10 : OwnS w2 (B4 + 3) v L := d10.below b2
            have bs2 := b2.size
            have hvb := World.ownsRow.lt d10
            have hdb := d11.size
            gi_step
            gi_step
            gi_at_builtin
            refine wpListIn_append_own _ rfl _ _ 25 rfl (B4 + 3) 9 i0 (.string ⟨#[]⟩) 1 16 Tryz.underlying25 hi hy0 hy1 hy2 rfl (by decide) _ _ _ rfl (World.ownsRow.alloc r10 _) ⟨_, 0, none⟩ 1 1 [.string y] rfl rfl (cell_new _ _ _) (by intro u hu; simp at hu; subst hu; rfl) (by unfold maxLen; omega) (by omega) (by simp; omega) ?_
            intro v' w4 hown' hgrow _
            obtain ⟨g', cap', rfl⟩ := ownsRow_succ hown'
            obtain ⟨hv1, hv2, hr2, hk2, hb2, hfr⟩ := appended2 (n₀ := w.heap.size) r5 (by decide) r10 (by omega) (by omega) (by omega) (by omega) hown' hgrow
            have hc5 := hv1.cell
            have hf5 := hv1.frozen
            have r6w : Boxed (w4.setCell ⟨B4 + 1, 0, none⟩ (.slice (some ⟨g', 0, none⟩) (L.length + 1) cap')) B6 3 (.int .i64 (i : Int)) := ((r6.alloc _).kept hgrow (r6.not_row (by decide) r10)).kept (grownBy_setCell' _ _ _) (fun e => by have := Option.some.inj e; omega)
            have e6 := r6w.cell
            have f6w := r6w.frozen
            gi_wp2
            have hsz4 := hgrow.size
            have G6 : ∀ b o, V.heap[b]? = some o → v.ownBlock ≠ some b → b ≠ B4 + 1 → b ≠ B6 → ((w4.setCell ⟨B4 + 1, 0, none⟩ (.slice (some ⟨g', 0, none⟩) (L.length + 1) cap')).setCell ⟨B6, 0, none⟩ (.int .i64 (j : Int))).heap[b]? = some o := fun b o hb q1 q2 q3 => part_keeps b2 (Nat.le_refl _) hgrow hb q1 q2 q3
            have hsz6 : w2.heap.size ≤ ((w4.setCell ⟨B4 + 1, 0, none⟩ (.slice (some ⟨g', 0, none⟩) (L.length + 1) cap')).setCell ⟨B6, 0, none⟩ (.int .i64 (j : Int))).heap.size := by simp [World.setCell] at hsz4 ⊢; omega
            have k4 : Boxed ((w4.setCell ⟨B4 + 1, 0, none⟩ (.slice (some ⟨g', 0, none⟩) (L.length + 1) cap')).setCell ⟨B6, 0, none⟩ (.int .i64 (j : Int))) B4 42 (.slice (some ⟨g0, 0, none⟩) (x.size + 1) (x.size + 1)) := G6 _ _ d4 (fun e => by have := (hvb _ e).1; omega) (by omega) (by omega)
            have k6 : Boxed ((w4.setCell ⟨B4 + 1, 0, none⟩ (.slice (some ⟨g', 0, none⟩) (L.length + 1) cap')).setCell ⟨B6, 0, none⟩ (.int .i64 (j : Int))) B6 3 (.int .i64 (j : Int)) := r6w.set _
            have k5 : Boxed ((w4.setCell ⟨B4 + 1, 0, none⟩ (.slice (some ⟨g', 0, none⟩) (L.length + 1) cap')).setCell ⟨B6, 0, none⟩ (.int .i64 (j : Int))) (B4 + 1) 25 (.slice (some ⟨g', 0, none⟩) (L.length + 1) cap') := hv2.kept (grownBy_setCell' _ _ _) (fun e => by have := Option.some.inj e; omega)
            have k9 := row9_kept d9 G6 (fun e => by have := (hvb _ e).1; omega) (fun e => (d5.not_row (by decide) d9) (by rw [e]; rfl)) (fun e => (d6.not_row (by decide) d9) (by rw [e]; rfl))
            have k10 : OwnS ((w4.setCell ⟨B4 + 1, 0, none⟩ (.slice (some ⟨g', 0, none⟩) (L.length + 1) cap')).setCell ⟨B6, 0, none⟩ (.int .i64 (j : Int))) (B4 + 3) (.slice (some ⟨g', 0, none⟩) (L.length + 1) cap') (L ++ [y]) := by
              unfold OwnS
              rw [List.length_append, List.map_append]
              exact World.ownsRow.kept hr2 (grownBy_setCell' _ _ _) (.inr (r6w.not_row (by decide) hr2).symm)
            have k11 : Below w.heap.size w ((w4.setCell ⟨B4 + 1, 0, none⟩ (.slice (some ⟨g', 0, none⟩) (L.length + 1) cap')).setCell ⟨B6, 0, none⟩ (.int .i64 (j : Int))) := ((d11.then b2).trans hb2).setCell (p := ⟨B6, 0, none⟩) (by show w.heap.size ≤ B6; omega) _
            have k12 : MarksAt ((w4.setCell ⟨B4 + 1, 0, none⟩ (.slice (some ⟨g', 0, none⟩) (L.length + 1) cap')).setCell ⟨B6, 0, none⟩ (.int .i64 (j : Int))) (B4 + 3) Ds := d12.keep fun b o hb ho => G6 b o hb (row_cells d10 hb ho) (box_cells d5 hb ho) (box_cells d6 hb ho)
            have kF : KeepsFrom W0.heap.size W' ((w4.setCell ⟨B4 + 1, 0, none⟩ (.slice (some ⟨g', 0, none⟩) (L.length + 1) cap')).setCell ⟨B6, 0, none⟩ (.int .i64 (j : Int))) := by
              have g2 : V.grownBy w2 none := ⟨b2.os, b2.tape, b2.output, b2.size, fun k hk _ => b2.block k hk⟩
              exact (((KeepsFrom.of_grownBy dG (fun k e => by cases e)).trans (KeepsFrom.of_grownBy g2 (fun k e => by cases e))).trans (hk2.from _)).trans (KeepsFrom.of_grownBy (grownBy_setCell' _ _ _) (fun k e => by have := Option.some.inj e; omega))
            refine ⟨kF, rfl, j, _, hij, by omega, k4, k5, k6, k9, ?_, k11, k12, ?_, HST⟩
            · rw [HY.out]; exact k10
            · omega
          · exact AllReadyIn.nil
        · refine AllReadyIn.cons rfl (fun K hK => ?_) ?_
          · go_simp
            gi_wp2_with (refine ⟨trivial, ?_⟩; gi_at_call 30; refine (callsIn_wide.2 (strings_Clone _ _ (by omega))).mono ?_; rintro e w2 ⟨rfl, b2⟩; have r5c : Boxed w2 (B4 + 1) 25 v := (b2.block _ (by omega)).trans d5; have c5c := r5c.cell)
            refine wpAnyIn_ready (rs := [0, 3]) (by kernel_rfl) (by simp) ?_
            refine AllReadyIn.cons rfl (fun K hK => ?_) ?_
            · go_simp
              refine hK _ _ ?_
              clear hK K
              refine anyIn_drop 3 _ rfl (by decide) _ _ _ (by kernel_rfl) ?_
              have r5 : Boxed w2 (B4 + 1) 25 v := (b2.block _ (by omega)).trans d5
              have r6 : Boxed w2 B6 3 (.int .i64 (i : Int)) := (b2.block _ (by omega)).trans d6
              have r9 := own_below d9 b2
              have r10 : OwnS w2 (B4 + 3) v L := d10.below b2
              have bs2 := b2.size
              have hvb := World.ownsRow.lt d10
              have hdb := d11.size
              gi_step
              gi_step
              gi_at_builtin
              refine wpListIn_append_own _ rfl _ _ 25 rfl (B4 + 3) 9 i0 (.string ⟨#[]⟩) 1 16 Tryz.underlying25 hi hy0 hy1 hy2 rfl (by decide) _ _ _ rfl (World.ownsRow.alloc r10 _) ⟨_, 0, none⟩ 1 1 [.string y] rfl rfl (cell_new _ _ _) (by intro u hu; simp at hu; subst hu; rfl) (by unfold maxLen; omega) (by omega) (by simp; omega) ?_
              intro v' w4 hown' hgrow _
              obtain ⟨g', cap', rfl⟩ := ownsRow_succ hown'
              obtain ⟨hv1, hv2, hr2, hk2, hb2, hfr⟩ := appended2 (n₀ := w.heap.size) r5 (by decide) r10 (by omega) (by omega) (by omega) (by omega) hown' hgrow
              have hc5 := hv1.cell
              have hf5 := hv1.frozen
              have r6w : Boxed (w4.setCell ⟨B4 + 1, 0, none⟩ (.slice (some ⟨g', 0, none⟩) (L.length + 1) cap')) B6 3 (.int .i64 (i : Int)) := ((r6.alloc _).kept hgrow (r6.not_row (by decide) r10)).kept (grownBy_setCell' _ _ _) (fun e => by have := Option.some.inj e; omega)
              have e6 := r6w.cell
              have f6w := r6w.frozen
              gi_wp2
              have hsz4 := hgrow.size
              have G6 : ∀ b o, V.heap[b]? = some o → v.ownBlock ≠ some b → b ≠ B4 + 1 → b ≠ B6 → ((w4.setCell ⟨B4 + 1, 0, none⟩ (.slice (some ⟨g', 0, none⟩) (L.length + 1) cap')).setCell ⟨B6, 0, none⟩ (.int .i64 (j : Int))).heap[b]? = some o := fun b o hb q1 q2 q3 => part_keeps b2 (Nat.le_refl _) hgrow hb q1 q2 q3
              have hsz6 : w2.heap.size ≤ ((w4.setCell ⟨B4 + 1, 0, none⟩ (.slice (some ⟨g', 0, none⟩) (L.length + 1) cap')).setCell ⟨B6, 0, none⟩ (.int .i64 (j : Int))).heap.size := by simp [World.setCell] at hsz4 ⊢; omega
              have k4 : Boxed ((w4.setCell ⟨B4 + 1, 0, none⟩ (.slice (some ⟨g', 0, none⟩) (L.length + 1) cap')).setCell ⟨B6, 0, none⟩ (.int .i64 (j : Int))) B4 42 (.slice (some ⟨g0, 0, none⟩) (x.size + 1) (x.size + 1)) := G6 _ _ d4 (fun e => by have := (hvb _ e).1; omega) (by omega) (by omega)
              have k6 : Boxed ((w4.setCell ⟨B4 + 1, 0, none⟩ (.slice (some ⟨g', 0, none⟩) (L.length + 1) cap')).setCell ⟨B6, 0, none⟩ (.int .i64 (j : Int))) B6 3 (.int .i64 (j : Int)) := r6w.set _
              have k5 : Boxed ((w4.setCell ⟨B4 + 1, 0, none⟩ (.slice (some ⟨g', 0, none⟩) (L.length + 1) cap')).setCell ⟨B6, 0, none⟩ (.int .i64 (j : Int))) (B4 + 1) 25 (.slice (some ⟨g', 0, none⟩) (L.length + 1) cap') := hv2.kept (grownBy_setCell' _ _ _) (fun e => by have := Option.some.inj e; omega)
              have k9 := row9_kept d9 G6 (fun e => by have := (hvb _ e).1; omega) (fun e => (d5.not_row (by decide) d9) (by rw [e]; rfl)) (fun e => (d6.not_row (by decide) d9) (by rw [e]; rfl))
              have k10 : OwnS ((w4.setCell ⟨B4 + 1, 0, none⟩ (.slice (some ⟨g', 0, none⟩) (L.length + 1) cap')).setCell ⟨B6, 0, none⟩ (.int .i64 (j : Int))) (B4 + 3) (.slice (some ⟨g', 0, none⟩) (L.length + 1) cap') (L ++ [y]) := by
                unfold OwnS
                rw [List.length_append, List.map_append]
                exact World.ownsRow.kept hr2 (grownBy_setCell' _ _ _) (.inr (r6w.not_row (by decide) hr2).symm)
              have k11 : Below w.heap.size w ((w4.setCell ⟨B4 + 1, 0, none⟩ (.slice (some ⟨g', 0, none⟩) (L.length + 1) cap')).setCell ⟨B6, 0, none⟩ (.int .i64 (j : Int))) := ((d11.then b2).trans hb2).setCell (p := ⟨B6, 0, none⟩) (by show w.heap.size ≤ B6; omega) _
              have k12 : MarksAt ((w4.setCell ⟨B4 + 1, 0, none⟩ (.slice (some ⟨g', 0, none⟩) (L.length + 1) cap')).setCell ⟨B6, 0, none⟩ (.int .i64 (j : Int))) (B4 + 3) Ds := d12.keep fun b o hb ho => G6 b o hb (row_cells d10 hb ho) (box_cells d5 hb ho) (box_cells d6 hb ho)
              have kF : KeepsFrom W0.heap.size W' ((w4.setCell ⟨B4 + 1, 0, none⟩ (.slice (some ⟨g', 0, none⟩) (L.length + 1) cap')).setCell ⟨B6, 0, none⟩ (.int .i64 (j : Int))) := by
                have g2 : V.grownBy w2 none := ⟨b2.os, b2.tape, b2.output, b2.size, fun k hk _ => b2.block k hk⟩
                exact (((KeepsFrom.of_grownBy dG (fun k e => by cases e)).trans (KeepsFrom.of_grownBy g2 (fun k e => by cases e))).trans (hk2.from _)).trans (KeepsFrom.of_grownBy (grownBy_setCell' _ _ _) (fun k e => by have := Option.some.inj e; omega))
              refine ⟨kF, rfl, j, _, hij, by omega, k4, k5, k6, k9, ?_, k11, k12, ?_, HST⟩
              · rw [HY.out]; exact k10
              · omega
            · refine AllReadyIn.cons rfl (fun K hK => ?_) ?_
              · go_simp
                refine hK _ _ ?_
                clear hK K
                have c5d := (r5c.alloc (.cells #[.string y] 9)).cell
                refine wpAnyIn_ready (rs := [0]) (by kernel_rfl) (by simp) ?_
                refine AllReadyIn.cons rfl (fun K hK => ?_) ?_
                · go_simp
                  refine hK _ _ ?_
                  clear hK K
                  refine anyIn_drop 4 _ rfl (by decide) _ _ _ (by kernel_rfl) ?_
                  have r5 : Boxed w2 (B4 + 1) 25 v := (b2.block _ (by omega)).trans d5
                  have r6 : Boxed w2 B6 3 (.int .i64 (i : Int)) := (b2.block _ (by omega)).trans d6
                  have r9 := own_below d9 b2
                  have r10 : OwnS w2 (B4 + 3) v L := d10.below b2
                  have bs2 := b2.size
                  have hvb := World.ownsRow.lt d10
                  have hdb := d11.size
                  simp only [List.drop_succ_cons, List.drop_zero]
                  refine wpListIn_append_own _ rfl _ _ 25 rfl (B4 + 3) 9 i0 (.string ⟨#[]⟩) 1 16 Tryz.underlying25 hi hy0 hy1 hy2 rfl (by decide) _ _ _ rfl (World.ownsRow.alloc r10 _) ⟨_, 0, none⟩ 1 1 [.string y] rfl rfl (cell_new _ _ _) (by intro u hu; simp at hu; subst hu; rfl) (by unfold maxLen; omega) (by omega) (by simp; omega) ?_
                  intro v' w4 hown' hgrow _
                  obtain ⟨g', cap', rfl⟩ := ownsRow_succ hown'
                  obtain ⟨hv1, hv2, hr2, hk2, hb2, hfr⟩ := appended2 (n₀ := w.heap.size) r5 (by decide) r10 (by omega) (by omega) (by omega) (by omega) hown' hgrow
                  have hc5 := hv1.cell
                  have hf5 := hv1.frozen
                  have r6w : Boxed (w4.setCell ⟨B4 + 1, 0, none⟩ (.slice (some ⟨g', 0, none⟩) (L.length + 1) cap')) B6 3 (.int .i64 (i : Int)) := ((r6.alloc _).kept hgrow (r6.not_row (by decide) r10)).kept (grownBy_setCell' _ _ _) (fun e => by have := Option.some.inj e; omega)
                  have e6 := r6w.cell
                  have f6w := r6w.frozen
                  gi_wp2
                  have hsz4 := hgrow.size
                  have G6 : ∀ b o, V.heap[b]? = some o → v.ownBlock ≠ some b → b ≠ B4 + 1 → b ≠ B6 → ((w4.setCell ⟨B4 + 1, 0, none⟩ (.slice (some ⟨g', 0, none⟩) (L.length + 1) cap')).setCell ⟨B6, 0, none⟩ (.int .i64 (j : Int))).heap[b]? = some o := fun b o hb q1 q2 q3 => part_keeps b2 (Nat.le_refl _) hgrow hb q1 q2 q3
                  have hsz6 : w2.heap.size ≤ ((w4.setCell ⟨B4 + 1, 0, none⟩ (.slice (some ⟨g', 0, none⟩) (L.length + 1) cap')).setCell ⟨B6, 0, none⟩ (.int .i64 (j : Int))).heap.size := by simp [World.setCell] at hsz4 ⊢; omega
                  have k4 : Boxed ((w4.setCell ⟨B4 + 1, 0, none⟩ (.slice (some ⟨g', 0, none⟩) (L.length + 1) cap')).setCell ⟨B6, 0, none⟩ (.int .i64 (j : Int))) B4 42 (.slice (some ⟨g0, 0, none⟩) (x.size + 1) (x.size + 1)) := G6 _ _ d4 (fun e => by have := (hvb _ e).1; omega) (by omega) (by omega)
                  have k6 : Boxed ((w4.setCell ⟨B4 + 1, 0, none⟩ (.slice (some ⟨g', 0, none⟩) (L.length + 1) cap')).setCell ⟨B6, 0, none⟩ (.int .i64 (j : Int))) B6 3 (.int .i64 (j : Int)) := r6w.set _
                  have k5 : Boxed ((w4.setCell ⟨B4 + 1, 0, none⟩ (.slice (some ⟨g', 0, none⟩) (L.length + 1) cap')).setCell ⟨B6, 0, none⟩ (.int .i64 (j : Int))) (B4 + 1) 25 (.slice (some ⟨g', 0, none⟩) (L.length + 1) cap') := hv2.kept (grownBy_setCell' _ _ _) (fun e => by have := Option.some.inj e; omega)
                  have k9 := row9_kept d9 G6 (fun e => by have := (hvb _ e).1; omega) (fun e => (d5.not_row (by decide) d9) (by rw [e]; rfl)) (fun e => (d6.not_row (by decide) d9) (by rw [e]; rfl))
                  have k10 : OwnS ((w4.setCell ⟨B4 + 1, 0, none⟩ (.slice (some ⟨g', 0, none⟩) (L.length + 1) cap')).setCell ⟨B6, 0, none⟩ (.int .i64 (j : Int))) (B4 + 3) (.slice (some ⟨g', 0, none⟩) (L.length + 1) cap') (L ++ [y]) := by
                    unfold OwnS
                    rw [List.length_append, List.map_append]
                    exact World.ownsRow.kept hr2 (grownBy_setCell' _ _ _) (.inr (r6w.not_row (by decide) hr2).symm)
                  have k11 : Below w.heap.size w ((w4.setCell ⟨B4 + 1, 0, none⟩ (.slice (some ⟨g', 0, none⟩) (L.length + 1) cap')).setCell ⟨B6, 0, none⟩ (.int .i64 (j : Int))) := ((d11.then b2).trans hb2).setCell (p := ⟨B6, 0, none⟩) (by show w.heap.size ≤ B6; omega) _
                  have k12 : MarksAt ((w4.setCell ⟨B4 + 1, 0, none⟩ (.slice (some ⟨g', 0, none⟩) (L.length + 1) cap')).setCell ⟨B6, 0, none⟩ (.int .i64 (j : Int))) (B4 + 3) Ds := d12.keep fun b o hb ho => G6 b o hb (row_cells d10 hb ho) (box_cells d5 hb ho) (box_cells d6 hb ho)
                  have kF : KeepsFrom W0.heap.size W' ((w4.setCell ⟨B4 + 1, 0, none⟩ (.slice (some ⟨g', 0, none⟩) (L.length + 1) cap')).setCell ⟨B6, 0, none⟩ (.int .i64 (j : Int))) := by
                    have g2 : V.grownBy w2 none := ⟨b2.os, b2.tape, b2.output, b2.size, fun k hk _ => b2.block k hk⟩
                    exact (((KeepsFrom.of_grownBy dG (fun k e => by cases e)).trans (KeepsFrom.of_grownBy g2 (fun k e => by cases e))).trans (hk2.from _)).trans (KeepsFrom.of_grownBy (grownBy_setCell' _ _ _) (fun k e => by have := Option.some.inj e; omega))
                  refine ⟨kF, rfl, j, _, hij, by omega, k4, k5, k6, k9, ?_, k11, k12, ?_, HST⟩
                  · rw [HY.out]; exact k10
                  · omega
                · exact AllReadyIn.nil
              · exact AllReadyIn.nil
          · exact AllReadyIn.nil
      · have hlf : ¬ (fF x j : Int) < (fF x i : Int) := by omega
        have HX : Hid (∀ k ∈ (pre ++ [(⟨j, hjm⟩ : { j : Nat // j ∈ tosL x i (x.size - i) })]).map Subtype.val, ¬ fF x i = fF x k + 1) := Lib.hid fun k hk => by
          rw [List.map_append, List.mem_append] at hk
          rcases hk with hk | hk
          · exact h13.out k hk
          · have : k = j := by simpa using hk
            subst this; exact hbr
        generalize fF x i = fi at *
        generalize fF x j = fj at *
        clear hz hjp hbr hfle
        generalize x.extract i j = y at *
        gi_wp2
        refine wpIn_region_tailR 8 hmo (by kernel_rfl) (by kernel_rfl) ?_
        simp only [List.take_succ_cons, List.take_zero, List.drop_succ_cons, List.drop_zero]
        repeat still_step
        try refine wpStill_nil ?_
        change wpListIn _ _ _ _ _ _ _ W'.drew
        gi_wp2
        have G : W'.grownBy W'.drew none := ⟨rfl, rfl, rfl, Nat.le_refl _, fun _ _ _ => rfl⟩
        exact ⟨KeepsFrom.of_grownBy G (fun k e => by cases e), ⟨(Below.refl _ _).drew, rfl, rfl⟩, h4, h5, h6, ⟨h7, h8⟩, own_below h9 (Below.refl _ _).drew, h10.below (Below.refl _ _).drew, h11.drew, h12, HX⟩
    case done =>
      rintro D ys W' hD hys ⟨h4, h5, h6, ⟨h7, h8⟩, h9, h10, h11, h12, h13⟩ hKD
      exfalso
      obtain ⟨n1, n2, n3, n4⟩ := nx_ok hp
      exact h13.out (nx x i) (by rw [hys]; exact (hmi.out _).2 ⟨n1, by omega, n3⟩) n4
    case stop =>
      rintro D c pre W' hD ⟨hne, tl, htl⟩ ⟨rfl, j, v', hij, hjs, h4, h5, h6, h9, h10, h11, h12, hsz, HS⟩ hKD
      have c6 := h6.cell
      have m4 := h4.lt
      have m5 := h5.lt
      have m6 := h6.lt
      have h11s := h11.size
      have hnx : nx x i = j := by
        obtain ⟨e1, pre', e2, e3⟩ := HS.out
        rw [e2, List.append_assoc] at htl
        exact nx_found htl e1 e3
      have HL2 : Hid ((L ++ [x.extract i j]) ++ pt x j = pt x 0) := Lib.hid (by rw [← HL.out, pt_step hp, hnx, List.append_assoc]; rfl)
      generalize L ++ [x.extract i j] = L2 at h10 HL2
      clear hnx htl HS hne
      gi_wp2
      refine Handed.intro g (by omega) (hJ _ _ _ ⟨_, _, _, _, _, _, _, _, _, _, _, _, _, _, _, _, _, _, _, _, _, _, _, _, _, _, _, _, _, _, _, _, _, _, _, _, _, _, _, j, W'.heap.size, v', L2, D :: Ds, rfl, by omega, hjs, h4.alloc _, h5.alloc _, Boxed.new W' _ _, by omega, by simp; omega, h9.alloc _, World.ownsRow.alloc h10 _, HL2, h11.alloc h11s _, ?_⟩)
      have hDl := (Array.getElem?_eq_some_iff.1 hKD).1
      refine MarksAt.old (W := W') (MarksAt.cons h12 (by omega) hKD fun hm => ?_) fun b hb => Below.heap_alloc _ _ b hb
      have := hMl D hm
      omega
  · obtain rfl : i = x.size := by omega
    have hpi : ¬ (x.size : Int) < (x.size : Int) := by omega
    have HLL : Hid (L = pt x 0) := Lib.hid (by rw [← HL.out, pt_end (Nat.lt_irrefl _), List.append_nil])
    clear hp HL
    gi_wp2
    exact leaves_marks (fun W => OwnS W (B4 + 3) v L ∧ Below w.heap.size w W) (fun W hW => ⟨_, results_tmp2 Tryz.results6 _ _ _, v, rfl, by rw [← HLL.out]; exact hW.1.base (by omega), hW.2⟩) Ds _ (B4 + 3) hM
      (fun D W hD hs hK => ⟨World.ownsRow.kept hs.1 (grownBy_putObj' W D _) (.inr (row_cells hs.1 hK rfl)), hs.2.trans (belowK_b (w := w) (Nat.le_refl _) W D _ _ (by omega) hK rfl rfl)⟩) ⟨hown, hB⟩

set_option maxRecDepth 100000 in
theorem impl_Fp_bad (x : ByteArray) (w : World) (sx : x.size ≤ maxLen) (h : ¬ IsW x) :
    CallsIn Fence.wide 5 Tryz.prog 6 #[.string x] w (RetS [] 1 w) := by
  have H := Lib.hid h
  clear h
  refine callsIn_of_wp_marks Tryz.func6 rfl trivial ?_ rfl
  simp only [Tryz.ntmps6, List.size_toArray, List.length_cons, List.length_nil, Nat.reduceAdd, Nat.reduceSub, Array.replicate_succ, Array.replicate_zero, List.push_toArray, List.append_toArray, List.nil_append, List.cons_append]
  gi_wp2_with (refine ⟨trivial, ?_⟩; gi_at_call 27; refine (callsIn_wide.2 (isWord_not x _ sx H.out)).mono ?_; rintro e w1 ⟨rfl, b1⟩)
  exact ⟨_, results_tmp2 rfl _ _ _, _, rfl, OwnS.nil _ _, b1⟩

theorem impl_FewestParts (x : ByteArray) (w : World) (sx : x.size ≤ maxLen) :
    Calls Tryz.prog 6 #[.string x] w (RetS (partsPR x).1 (partsPR x).2 w) := by
  by_cases h : IsW x
  · rw [partsPR_ok h]
    exact callsIn_wide.1 (impl_Fp_ok x w h)
  · rw [partsPR_bad h]
    exact callsIn_wide.1 (impl_Fp_bad x w sx h)

end Go.Proofs.YtddfdciohnabbacGreat
