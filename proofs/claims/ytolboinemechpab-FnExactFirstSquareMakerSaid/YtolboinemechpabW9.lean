/- What FirstSquareMaker needs, in one text. -/
import Derived.Test.YtolboinemechpabTurnIter
import Derived.Test.YtolboinemechpabLyn
import Derived.Test.YtolboinemechpabRotPlain
import Derived.Test.YtolboinemechpabTurn
import Derived.Test.YtolboinemechpabSfIter
import Derived.Test.YtolboinemechpabFacIter
import Derived.Test.YtolboinemechpabMorC
import Derived.Test.YtolboinemechpabMorPlain
import Derived.Test.YtolboinemechpabComPlain
import Derived.Test.YtolboinemechpabInts
import Derived.Lib.OthersKept
import Derived.WalkSmall
import Derived.Test.YtolboinemechpabCtPlain
import Derived.Deep.QuietTactic
import Derived.BigQuiet
import Derived.Deep.RegionWith
import Derived.RangeFuncBox
import Derived.ChangeKeysEq
import Derived.IntWalk
import Derived.StillTailTactics
import Derived.Test.YtolboinemechpabLensPlain
import Derived.Test.YtolboinemechpabTestPlain
import Derived.Test.YtolboinemechpabShelf
import Derived.Test.YtolboinemechpabRows
import Derived.WalkKit
import Derived.WalkMore
import Derived.ScopeJumps
import Derived.Deep.LoopGhost
import Derived.Test.YtolboinemechpabLib
import Derived.Deep.RegionHeld3
import Derived.Deep.AppendLies
import Derived.Lib.AppendStr
import Derived.Test.YtolboinemechpabMakPlain
import Derived.Test.YtolboinemechpabSq
import Derived.Test.YtolboinemechpabTestS
import Derived.Test.YtolboinemechpabWordsPlain

/-! ### Least -/
namespace Go.Proofs.Ytolboinemechpab
set_option linter.unusedVariables false
set_option linter.unusedSimpArgs false
open Go.RowKit Go.Shelf
attribute [local go_sem] Oper.semAt_some

/-- The least of the turned words told, and by how many letters. -/
def ltS (x : ByteArray) (p : ByteArray × Nat) (k : Nat) : ByteArray × Nat := if bl (turned x k) < bl p.1 then (turned x k, k) else p
def ltF (x : ByteArray) (pre : List Nat) : ByteArray × Nat := pre.foldl (ltS x) (x, 0)
theorem ltF_nil (x : ByteArray) : ltF x [] = (x, 0) := rfl
theorem ltF_snoc (x : ByteArray) (pre : List Nat) (k : Nat) : ltF x (pre ++ [k]) = ltS x (ltF x pre) k := by unfold ltF; rw [List.foldl_append]; rfl
theorem ltS_hit {x : ByteArray} {p : ByteArray × Nat} {k : Nat} (h : bl (turned x k) < bl p.1) : ltS x p k = (turned x k, k) := if_pos h
theorem ltS_miss {x : ByteArray} {p : ByteArray × Nat} {k : Nat} (h : ¬ bl (turned x k) < bl p.1) : ltS x p k = p := if_neg h
theorem turned_zero (x : ByteArray) : turned x 0 = x := bl_inj (by unfold turned; rw [bl_append, bl_drop, bl_take]; simp)
theorem turned_size (x : ByteArray) (k : Nat) (h : k ≤ x.size) : (turned x k).size = x.size := by unfold turned; rw [ByteArray.size_append]; simp; omega
theorem turned_size_le (x : ByteArray) (k : Nat) : (turned x k).size ≤ x.size + x.size := by unfold turned; rw [ByteArray.size_append]; simp; omega
theorem bl_turned (x : ByteArray) (k : Nat) : bl (turned x k) = rotL (bl x) k := by unfold turned rotL; rw [bl_append, bl_drop, bl_take]
theorem ltF_one (x : ByteArray) : ltF x (List.range 1) = (x, 0) := by
  show ltS x (x, 0) 0 = (x, 0)
  unfold ltS
  rw [turned_zero]
  split <;> rfl
theorem ltF_size' (x : ByteArray) : ∀ (pre : List Nat) (p : ByteArray × Nat), p.1.size ≤ x.size + x.size → (pre.foldl (ltS x) p).1.size ≤ x.size + x.size
  | [], p, h => h
  | k :: pre, p, h => by
    rw [List.foldl_cons]
    refine ltF_size' x pre _ ?_
    unfold ltS
    split
    · exact turned_size_le x k
    · exact h
theorem ltF_size (x : ByteArray) (pre : List Nat) : (ltF x pre).1.size ≤ x.size + x.size := ltF_size' x pre _ (by show x.size ≤ _; omega)
def ltR (x : ByteArray) : ByteArray × Int × Int := if ¬ IsW x then (⟨#[]⟩, 0, 1) else ((ltF x (List.range (max 1 x.size))).1, ((ltF x (List.range (max 1 x.size))).2 : Int), 0)
theorem ltR_bad {x : ByteArray} (h : ¬ IsW x) : ltR x = (⟨#[]⟩, 0, 1) := if_pos h
theorem ltR_ok {x : ByteArray} (h : IsW x) : ltR x = ((ltF x (List.range (max 1 x.size))).1, ((ltF x (List.range (max 1 x.size))).2 : Int), 0) := by unfold ltR; rw [if_neg (not_not_intro h)]

end Go.Proofs.Ytolboinemechpab

/-! ### IsLyn -/
namespace Go.Proofs.Ytolboinemechpab
set_option linter.unusedVariables false
set_option linter.unusedSimpArgs false
open Go.RowKit Go.Shelf
attribute [local go_sem] Oper.semAt_some

noncomputable def isLynR (x : ByteArray) : Bool × Int := if ¬ IsW x then (false, 1) else (lynB (bl x), 0)
theorem isLynR_bad {x : ByteArray} (h : ¬ IsW x) : isLynR x = (false, 1) := if_pos h
theorem isLynR_ok {x : ByteArray} (h : IsW x) : isLynR x = (lynB (bl x), 0) := by unfold isLynR; rw [if_neg (not_not_intro h)]

/-- The results lie in boxes. -/
theorem results_boxes {fn : Func} {t u : Tmp} {ty ty2 : TypeId} (h : fn.results = #[.cell t ty, .cell u ty2]) {tmps : Array Value} {P : Program} {W : World} {b1 b2 : Nat} {v1 v2 : Value}
    (h1 : tmps[t]?.getD undef = .pointer (some ⟨b1, 0, none⟩)) (h2 : tmps[u]?.getD undef = .pointer (some ⟨b2, 0, none⟩)) (g1 : ∀ w, (isAgg ty).run P w = .ok false w) (g2 : ∀ w, (isAgg ty2).run P w = .ok false w) (c1 : W.cell? ⟨b1, 0, none⟩ = some v1) (c2 : W.cell? ⟨b2, 0, none⟩ = some v2) :
    (results fn tmps).run P W = .ok (.tuple #[v1, v2]) W := by
  simp [results, h, h1, h2, go_sem, g1, g2, c1, c2, asAddr]

/-- Three boxes made ahead of a call stand behind it. -/
theorem boxes3 {w w1 : World} {x : ByteArray} (b : Below (((w.alloc (.cells #[.string x] 9)).alloc (.cells #[.bool false] 4)).alloc (.cells #[.int .i64 0] 2)).heap.size (((w.alloc (.cells #[.string x] 9)).alloc (.cells #[.bool false] 4)).alloc (.cells #[.int .i64 0] 2)) w1) :
    Boxed w1 w.heap.size 9 (.string x) ∧ Boxed w1 (w.heap.size + 1) 4 (.bool false) ∧ Boxed w1 (w.heap.size + 1 + 1) 2 (.int .i64 0) ∧ Below w.heap.size w w1 ∧ w.heap.size + 3 ≤ w1.heap.size := by
  have k1 : Boxed (((w.alloc (.cells #[.string x] 9)).alloc (.cells #[.bool false] 4)).alloc (.cells #[.int .i64 0] 2)) w.heap.size 9 (.string x) := ((Boxed.new w _ _).alloc _).alloc _
  have k2 : Boxed (((w.alloc (.cells #[.string x] 9)).alloc (.cells #[.bool false] 4)).alloc (.cells #[.int .i64 0] 2)) (w.heap.size + 1) 4 (.bool false) := by
    have := Boxed.new (w.alloc (.cells #[.string x] 9)) 4 (.bool false)
    rw [World.size_alloc] at this
    exact this.alloc _
  have k3 : Boxed (((w.alloc (.cells #[.string x] 9)).alloc (.cells #[.bool false] 4)).alloc (.cells #[.int .i64 0] 2)) (w.heap.size + 1 + 1) 2 (.int .i64 0) := by
    have := Boxed.new ((w.alloc (.cells #[.string x] 9)).alloc (.cells #[.bool false] 4)) 2 (.int .i64 0)
    simp only [World.size_alloc] at this
    exact this
  have hz := b.size
  refine ⟨(b.block _ k1.lt).trans k1, (b.block _ k2.lt).trans k2, (b.block _ k3.lt).trans k3, ((((Below.refl w.heap.size w).alloc (Nat.le_refl _) _).alloc (by simp) _).alloc (by rw [World.size_alloc, World.size_alloc]; omega) _).trans (b.mono (by rw [World.size_alloc, World.size_alloc, World.size_alloc]; omega)), by simpa using hz⟩

theorem less_cases {a b : ByteArray} (h : ¬ bl a < bl b) : (Op.bytesLess b.toList a.toList = true) ∨ (Op.bytesLess b.toList a.toList = false ∧ (b.toList == a.toList) = true) := by
  by_cases e : a = b
  · subst e
    exact .inr ⟨less_no (List.lt_irrefl _), teq_yes rfl⟩
  · exact .inl (less_yes (lt_of_ne_not h (fun k => e (bl_inj k))))
theorem lyn_stop {x : ByteArray} {k : Nat} (h0 : 0 < k) (h1 : k < x.size) (h : ¬ bl x < bl (turned x k)) : lynB (bl x) = false := lynB_no fun hl => h (by
  rw [bl_turned]
  exact (lyn_rot _).1 hl.2 k h0 (by rw [bl_len]; exact h1))
theorem lyn_done {x : ByteArray} (h : ∀ k, k < x.size → 0 < k → bl x < bl (turned x k)) : lynB (bl x) = !(x.toList.isEmpty) := by
  by_cases h0 : x.size = 0
  · rw [teq_nil h0]
    exact lynB_no fun hl => hl.1 (by rw [size_zero h0])
  · rw [teq_not_nil h0]
    refine lynB_yes ⟨bl_ne (by omega), (lyn_rot _).2 fun k k0 k1 => ?_⟩
    rw [← bl_turned]
    exact h k (by rw [bl_len] at k1; exact k1) k0

end Go.Proofs.Ytolboinemechpab

/-! ### SfCount -/
namespace Go.Proofs.Ytolboinemechpab
set_option linter.unusedVariables false
set_option linter.unusedSimpArgs false
open Go.RowKit Go.Shelf
attribute [local go_sem] Oper.semAt_some

def countSfR (m k : Int) : Int × Int := if m < 0 ∨ 12 < m ∨ k < 1 ∨ 3 < k then (0, 2) else (((dfs k.toNat m.toNat []).length : Int), 0)
theorem countSfR_out {m k : Int} (h : m < 0 ∨ 12 < m ∨ k < 1 ∨ 3 < k) : countSfR m k = (0, 2) := if_pos h
theorem countSfR_ok {m k : Nat} (h1 : m ≤ 12) (h2 : 1 ≤ k) (h3 : k ≤ 3) : countSfR (m : Int) (k : Int) = (((dfs k m []).length : Int), 0) := by unfold countSfR; rw [if_neg (by omega)]; rfl

theorem Boxed.below {W W' : World} {B b : Nat} {t : TypeId} {v : Value} (h : Boxed W b t v) (hb : Below B W W') (hlt : b < B) : Boxed W' b t v := (hb.block b hlt).trans h
theorem KeepUp.set {B b : Nat} (W : World) (v : Value) (h : b < B) : KeepUp B W (W.setCell ⟨b, 0, none⟩ v) :=
  ⟨(grownBy_setCell' W b v).size, fun k h1 h2 => (grownBy_setCell' W b v).block k h2 (fun e => by cases e; omega)⟩

noncomputable def firstSfR (m k : Int) : ByteArray × Int := if m < 0 ∨ 30 < m ∨ k < 1 ∨ 5 < k then (⟨#[]⟩, 2) else match (dfs k.toNat m.toNat []).head? with
  | some s => (⟨s.toArray⟩, 0)
  | none => (⟨#[]⟩, 4)
theorem firstSfR_out {m k : Int} (h : m < 0 ∨ 30 < m ∨ k < 1 ∨ 5 < k) : firstSfR m k = (⟨#[]⟩, 2) := if_pos h
theorem firstSfR_some {m k : Nat} {s : List UInt8} (h1 : m ≤ 30) (h2 : 1 ≤ k) (h3 : k ≤ 5) (h : (dfs k m []).head? = some s) : firstSfR (m : Int) (k : Int) = (⟨s.toArray⟩, 0) := by unfold firstSfR; rw [if_neg (by omega)]; simp [h]
theorem firstSfR_none {m k : Nat} (h1 : m ≤ 30) (h2 : 1 ≤ k) (h3 : k ≤ 5) (h : (dfs k m []).head? = none) : firstSfR (m : Int) (k : Int) = (⟨#[]⟩, 4) := by unfold firstSfR; rw [if_neg (by omega)]; simp [h]

/-- Both boxes of the results are written. -/
theorem two_set {w W : World} {b : Nat} {t u : TypeId} {v v' x x' : Value} (v2 : Boxed W b t v) (v3 : Boxed W (b + 1) u v') (hB : Below w.heap.size w W) (hb : w.heap.size ≤ b) :
    Boxed ((W.setCell ⟨b, 0, none⟩ x).setCell ⟨b + 1, 0, none⟩ x') b t x ∧ Boxed ((W.setCell ⟨b, 0, none⟩ x).setCell ⟨b + 1, 0, none⟩ x') (b + 1) u x' ∧ Below w.heap.size w ((W.setCell ⟨b, 0, none⟩ x).setCell ⟨b + 1, 0, none⟩ x') ∧
    (∀ B, b + 1 < B → KeepUp B W ((W.setCell ⟨b, 0, none⟩ x).setCell ⟨b + 1, 0, none⟩ x')) ∧ ∀ D, D < W.heap.size → D ≠ b → D ≠ b + 1 → ((W.setCell ⟨b, 0, none⟩ x).setCell ⟨b + 1, 0, none⟩ x').heap[D]? = W.heap[D]? := by
  refine ⟨(v2.set _).kept (grownBy_setCell' _ _ _) (fun e => by have := Option.some.inj e; omega), (v3.kept (grownBy_setCell' _ _ _) (fun e => by have := Option.some.inj e; omega)).set _, (hB.setCell (p := ⟨b, 0, none⟩) hb _).setCell (p := ⟨b + 1, 0, none⟩) (by show w.heap.size ≤ b + 1; omega) _, fun B h => (KeepUp.set _ _ (by omega)).trans (KeepUp.set _ _ h), fun D h1 h2 h3 => ?_⟩
  rw [(grownBy_setCell' _ _ _).block D (by simpa [World.setCell] using h1) (fun e => by have := Option.some.inj e; omega), (grownBy_setCell' _ _ _).block D h1 (fun e => by have := Option.some.inj e; omega)]

end Go.Proofs.Ytolboinemechpab

/-! ### Marks -/
namespace Go.Proofs.Ytolboinemechpab
set_option linter.unusedVariables false
set_option linter.unusedSimpArgs false
open Go.RowKit Go.Shelf

def mkD (D : Nat) : Deferred := { target := .collected D, args := #[] }
/-- The marks: each one's record stands, and no two are one. -/
def MarksAt (W : World) (lo : Nat) (Ds : List Nat) : Prop := Ds.Nodup ∧ ∀ D ∈ Ds, lo ≤ D ∧ W.heap[D]? = some (.deferred (some []))
theorem MarksAt.nil (W : World) (lo : Nat) : MarksAt W lo [] := ⟨List.nodup_nil, fun D h => by cases h⟩
theorem MarksAt.lt {W : World} {lo : Nat} {Ds : List Nat} (h : MarksAt W lo Ds) : ∀ D ∈ Ds, D < W.heap.size := fun D hD => (Array.getElem?_eq_some_iff.1 (h.2 D hD).2).1
theorem MarksAt.keep {W W' : World} {lo : Nat} {Ds : List Nat} (h : MarksAt W lo Ds) (hk : ∀ (b : Nat) (o : Obj), W.heap[b]? = some o → o.isCells = false → W'.heap[b]? = some o) : MarksAt W' lo Ds := ⟨h.1, fun D hD => ⟨(h.2 D hD).1, hk D _ (h.2 D hD).2 rfl⟩⟩
theorem MarksAt.cons {W : World} {lo : Nat} {Ds : List Nat} {D : Nat} (h : MarksAt W lo Ds) (hD : lo ≤ D) (hK : W.heap[D]? = some (.deferred (some []))) (hn : D ∉ Ds) : MarksAt W lo (D :: Ds) :=
  ⟨List.nodup_cons.2 ⟨hn, h.1⟩, fun E hE => by rcases List.mem_cons.1 hE with rfl | hE; exact ⟨hD, hK⟩; exact h.2 E hE⟩

/-- Both boxes of the results are written. -/
theorem two_boxes {w W : World} {b : Nat} {t u : TypeId} {v v' x x' : Value} (v2 : Boxed W b t v) (v3 : Boxed W (b + 1) u v') (hB : Below w.heap.size w W) (hb : w.heap.size ≤ b) :
    Boxed ((W.setCell ⟨b, 0, none⟩ x).setCell ⟨b + 1, 0, none⟩ x') b t x ∧ Boxed ((W.setCell ⟨b, 0, none⟩ x).setCell ⟨b + 1, 0, none⟩ x') (b + 1) u x' ∧ Below w.heap.size w ((W.setCell ⟨b, 0, none⟩ x).setCell ⟨b + 1, 0, none⟩ x') ∧
    (∀ B, b + 1 < B → KeepsFrom B W ((W.setCell ⟨b, 0, none⟩ x).setCell ⟨b + 1, 0, none⟩ x')) ∧ ∀ D, D < W.heap.size → D ≠ b → D ≠ b + 1 → ((W.setCell ⟨b, 0, none⟩ x).setCell ⟨b + 1, 0, none⟩ x').heap[D]? = W.heap[D]? := by
  refine ⟨(v2.set _).kept (grownBy_setCell' _ _ _) (fun e => by have := Option.some.inj e; omega), (v3.kept (grownBy_setCell' _ _ _) (fun e => by have := Option.some.inj e; omega)).set _, (hB.setCell (p := ⟨b, 0, none⟩) hb _).setCell (p := ⟨b + 1, 0, none⟩) (by show w.heap.size ≤ b + 1; omega) _, fun B h => (KeepsFrom.of_grownBy (grownBy_setCell' _ _ _) (fun j e => by cases e; omega)).trans (KeepsFrom.of_grownBy (grownBy_setCell' _ _ _) (fun j e => by cases e; omega)), fun D h1 h2 h3 => ?_⟩
  rw [(grownBy_setCell' _ _ _).block D (by simpa [World.setCell] using h1) (fun e => by have := Option.some.inj e; omega), (grownBy_setCell' _ _ _).block D h1 (fun e => by have := Option.some.inj e; omega)]
theorem MarksAt.old {W W' : World} {lo : Nat} {Ds : List Nat} (h : MarksAt W lo Ds) (hk : ∀ b, b < W.heap.size → W'.heap[b]? = W.heap[b]?) : MarksAt W' lo Ds := ⟨h.1, fun D hD => ⟨(h.2 D hD).1, (hk D (h.lt D hD)).trans (h.2 D hD).2⟩⟩
/-- A record of a mark is no box. -/
theorem MarksAt.not_box {W : World} {lo : Nat} {Ds : List Nat} (h : MarksAt W lo Ds) {b : Nat} {t : TypeId} {v : Value} (hb : Boxed W b t v) : b ∉ Ds := fun hm => by
  have h1 := (h.2 b hm).2
  have h2 : W.heap[b]? = _ := hb
  rw [h2] at h1
  cases h1

theorem leaves_marks {F : Fence} {n : Nat} {P : Program} {fn : Func} {tmps : Array Value} {R : Ending → World → Prop} (St : World → Prop) (hfin : ∀ W, St W → LeavesIn F n P fn tmps R [] .returning W) :
    ∀ (Ds : List Nat) (W : World) (lo : Nat), MarksAt W lo Ds → (∀ D W, lo ≤ D → St W → W.heap[D]? = some (.deferred (some [])) → St (W.putObj D (.deferred none))) → St W → LeavesInM F n P fn tmps R (Ds.map mkD) .returning W
  | [], W, lo, _, _, hs => hfin W hs
  | D :: Ds, W, lo, hM, hP, hs => by
    have hD := hM.2 D (List.mem_cons_self ..)
    have hn := List.nodup_cons.1 hM.1
    refine ⟨by simp, .inl ⟨D, _, rfl, run_takeDeferred hD.2, leaves_marks St hfin Ds _ lo ⟨hn.2, fun E hE => ⟨(hM.2 E (List.mem_cons_of_mem _ hE)).1, ?_⟩⟩ hP (hP D W hD.1 hs hD.2)⟩⟩
    rw [World.putObj_heap_other (fun e => hn.1 (by rw [← e]; exact hE))]
    exact (hM.2 E (List.mem_cons_of_mem _ hE)).2

end Go.Proofs.Ytolboinemechpab

/-! ### Img -/
namespace Go.Proofs.Ytolboinemechpab
set_option linter.unusedVariables false
set_option linter.unusedSimpArgs false
open Go.RowKit

/-- What a letter of a word has to do with the row of images. -/
theorem letter_img {I : List (List UInt8)} {l : List UInt8} (h : lets I l) (i : Nat) (hi : i < l.length) :
    ∃ n : Nat, ∃ hn : n < I.length, ((l[i]'hi).toNat : Int) = (n : Int) + 97 ∧ img I (l[i]'hi) = I[n]'hn ∧ letr n = l[i]'hi := by
  have hc := h _ (List.getElem_mem hi)
  refine ⟨(l[i]'hi).toNat - 97, hc.2, by omega, ?_, letr_of hc.1⟩
  unfold img
  rw [List.getD_eq_getElem?_getD, List.getElem?_eq_getElem hc.2]
  rfl

set_option maxRecDepth 100000 in
set_option maxHeartbeats 1000000 in
theorem l06Image_any (B : Nat) (v : Value) (I : List (List UInt8)) (l : List UInt8) (x : ByteArray) (w : World) (h : OwnS w B v (I.map bt)) (g : Mor I) (hx : x = bt l) (hl : lets I l) (h60 : l.length ≤ 60) :
    Calls Try.prog 132 #[.agg #[v], .string x] w fun e w' => e = .returned (.string (bt (imgOf I l))) ∧ Below w.heap.size w w' := by
  have h1 := g.len1
  have h5 := g.len5
  have hxs : x.size = l.length := by rw [hx]; rfl
  have hxg : ∀ i (hi : i < l.length) (hj : i < x.size), x[i]'hj = l[i]'hi := by subst hx; exact fun i hi hj => rfl
  obtain ⟨p, cap, rfl, hg, hc, cell⟩ := h.rowM (by omega)
  have C := Lib.hid cell
  have G := Lib.hid g
  have HL := Lib.hid hl
  have HX := Lib.hid hxg
  have HS := Lib.hid hxs
  have hs1 : x.size ≤ l.length := by omega
  have hs2 : l.length ≤ x.size := by omega
  clear h cell g hl hxg hx hxs
  go_enter Try.func132, Try.ntmps132
  go_wp2_with fail
  obtain ⟨W1, hW1⟩ : ∃ W1 : World, W1 = w.alloc (.cells #[.slice (some ⟨p, 0, none⟩) I.length cap] 53) := ⟨_, rfl⟩
  have qh : Boxed W1 w.heap.size 53 (.slice (some ⟨p, 0, none⟩) I.length cap) := by rw [hW1]; exact Boxed.new _ _ _
  have B1 : Below w.heap.size w W1 := by rw [hW1]; exact Below.new _ _
  rw [← hW1]
  clear hW1
  have QH := Lib.hid qh
  clear qh
  go_loopw [5, 6] (fun o i wr => ∃ (k : Nat) (r : ByteArray), k ≤ l.length ∧ i = .int .i64 k ∧ o = .string r ∧ Hid (r = bt (imgOf I (l.take k))) ∧ r.size ≤ 12 * k ∧ Below W1.heap.size W1 wr) (fun _ i _ => l.length - (intOf i).toNat)
  case atStart => exact ⟨0, ⟨#[]⟩, Nat.zero_le _, rfl, rfl, Lib.hid rfl, by show 0 ≤ _; omega, Below.refl _ _⟩
  case round =>
    obtain ⟨k, r, hk, rfl, rfl, HR, hr, hB⟩ := hrel
    have BW := B1.then hB
    have kr := (boxed_later QH.out hB).cell
    by_cases hp : k < l.length
    · have hkx : k < x.size := by omega
      obtain ⟨n, hn, e1, e2, _⟩ := letter_img HL.out k hp
      rw [← HX.out k hp hkx] at e1
      have kc : wr.cell? ⟨p, n, none⟩ = some (.string (bt (I[n]'hn))) := by rw [(bcell BW).1 p n hg]; exact C.out n hn
      have hz12 : (bt (I[n]'hn)).size ≤ 12 := (G.out.im n hn).1
      have hap : r ++ bt (I[n]'hn) = bt (imgOf I (l.take (k + 1))) := by rw [HR.out, bt_app, imgOf_take I l k hp, e2]
      have hlt : ((x[k]'hkx).toNat : Int) < 256 := by omega
      have HAP := Lib.hid hap
      generalize bt (I[n]'hn) = z at kc hz12 HAP
      have hasz : (r ++ z).size = r.size + z.size := ByteArray.size_append
      have HAS := Lib.hid hasz
      have hnc : n < cap := by omega
      clear e2 hap hasz
      go_wp2_with fail
      go_quiet (fail)
      go_wp2_with fail
      go_roundw
      case rel => exact ⟨k + 1, r ++ z, by omega, by go_num, rfl, HAP, by have := HAS.out; omega, hB.drewN _⟩
      case measure => simp [intOf]; omega
    · have hke : k = l.length := by omega
      have HN : Hid (r = bt (imgOf I l)) := Lib.hid (by rw [HR.out, hke, List.take_of_length_le (Nat.le_refl _)])
      clear hke
      go_wp2_with fail
      go_ret
      exact ⟨by rw [← HN.out]; rfl, BW⟩
end Go.Proofs.Ytolboinemechpab

/-! ### ImgS -/
namespace Go.Proofs.Ytolboinemechpab
set_option linter.unusedVariables false
set_option linter.unusedSimpArgs false
open Go.RowKit

theorem l06Code_is (B : Nat) (v : Value) (I : List (List UInt8)) (x : ByteArray) (w : World) (h : OwnS w B v (I.map bt)) (t : Tot I) (sx : x.size ≤ maxLen) (c : Int) (hc : mwC I x = c) :
    Calls Try.prog 95 #[.agg #[v], .string x] w fun e w' => e = .returned (.int .i64 c) ∧ Below w.heap.size w w' := by
  have := l06Code_any B v I x w h t sx
  unfold mwAns at this
  rw [hc] at this
  exact this
theorem checkWord_is (B : Nat) (v : Value) (I : List (List UInt8)) (x : ByteArray) (w : World) (h : OwnS w B v (I.map bt)) (t : Tot I) (sx : x.size ≤ maxLen) (c : Int) (hc : mwC I x = c) :
    Calls Try.prog 96 #[.agg #[v], .string x] w fun e w' => e = .returned (.int .i64 c) ∧ Below w.heap.size w w' := by
  have := checkWord_any B v I x w h t sx
  unfold mwAns at this
  rw [hc] at this
  exact this

set_option maxRecDepth 100000 in
theorem l01In_yesM (n lo hi : Int) (w : World) (h1 : lo ≤ n) (h2 : n ≤ hi) :
    Calls Try.prog 52 #[.int .i64 n, .int .i64 lo, .int .i64 hi] w fun e w' => e = .returned (.bool true) ∧ w = w' := by
  go_enter Try.func52, Try.ntmps52
  go_wp2
  go_ret
  exact ⟨ret_bool (by simp [*]), rfl⟩

set_option maxRecDepth 100000 in
theorem l01In_noM (n lo hi : Int) (w : World) (h : ¬ (lo ≤ n ∧ n ≤ hi)) :
    Calls Try.prog 52 #[.int .i64 n, .int .i64 lo, .int .i64 hi] w fun e w' => e = .returned (.bool false) ∧ w = w' := by
  by_cases h1 : lo ≤ n
  · have h2 : hi < n := by omega
    clear h
    go_enter Try.func52, Try.ntmps52
    go_wp2
    go_ret
    exact ⟨ret_bool (by simp <;> omega), rfl⟩
  · have h2 : n < lo := by omega
    clear h h1
    go_enter Try.func52, Try.ntmps52
    go_wp2
    go_ret
    exact ⟨ret_bool (by simp <;> omega), rfl⟩

end Go.Proofs.Ytolboinemechpab

/-! ### GrowPlain -/
namespace Go.Proofs.Ytolboinemechpab
set_option linter.unusedVariables false
set_option linter.unusedSimpArgs false
open Go.RowKit

/-- The iterate of k, however long. -/
def hk (I : List (List UInt8)) : Nat → List UInt8 → List UInt8
  | 0, l => l
  | k + 1, l => hk I k (imgOf I l)
theorem hk_zero (I : List (List UInt8)) (l : List UInt8) : hk I 0 l = l := rfl
theorem hk_head (I : List (List UInt8)) (k : Nat) (l : List UInt8) : hk I (k + 1) l = hk I k (imgOf I l) := rfl
theorem hk_succ (I : List (List UInt8)) : ∀ (k : Nat) (l : List UInt8), hk I (k + 1) l = imgOf I (hk I k l)
  | 0, l => rfl
  | k + 1, l => by rw [hk_head, hk_succ I k, hk_head]
theorem hk_app (I : List (List UInt8)) : ∀ (k : Nat) (a b : List UInt8), hk I k (a ++ b) = hk I k a ++ hk I k b
  | 0, a, b => rfl
  | k + 1, a, b => by rw [hk_head, imgOf_app, hk_app I k, ← hk_head, ← hk_head]
theorem hk_nil (I : List (List UInt8)) : ∀ k, hk I k [] = []
  | 0 => rfl
  | k + 1 => by rw [hk_head, imgOf_nil, hk_nil I k]
theorem hk_lets {I : List (List UInt8)} (g : Mor I) : ∀ (k : Nat) {l : List UInt8}, lets I l → lets I (hk I k l)
  | 0, l, h => h
  | k + 1, l, h => by rw [hk_head]; exact hk_lets g k (imgOf_lets g h)
theorem hk_len {I : List (List UInt8)} (g : Mor I) : ∀ (k : Nat) {l : List UInt8}, lets I l → (hk I k l).length ≤ 12 ^ k * l.length
  | 0, l, h => by simp [hk]
  | k + 1, l, h => by
    rw [hk_head]
    have h1 := hk_len g k (imgOf_lets g h)
    have h2 := imgOf_len g h
    calc _ ≤ 12 ^ k * (imgOf I l).length := h1
      _ ≤ 12 ^ k * (12 * l.length) := Nat.mul_le_mul_left _ h2
      _ = 12 ^ (k + 1) * l.length := by rw [Nat.pow_succ, Nat.mul_assoc]

/-- An iterate of a letter is empty. -/
def dead (I : List (List UInt8)) : Nat → UInt8 → Bool
  | 0, _ => false
  | k + 1, c => (img I c).all (dead I k)
theorem dead_iff (I : List (List UInt8)) : ∀ (k : Nat) (l : List UInt8), hk I k l = [] ↔ ∀ c ∈ l, dead I k c = true
  | 0, l => by
    constructor
    · intro h; rw [hk_zero] at h; subst h; simp
    · intro h
      cases l with
      | nil => rfl
      | cons c l => have := h c (List.mem_cons_self ..); simp [dead] at this
  | k + 1, l => by
    rw [hk_head, dead_iff I k]
    constructor
    · intro h c hc
      rw [dead, List.all_eq_true]
      intro x hx
      exact h x (by rw [imgOf, List.mem_flatMap]; exact ⟨c, hc, hx⟩)
    · intro h x hx
      rw [imgOf, List.mem_flatMap] at hx
      obtain ⟨c, hc, hx⟩ := hx
      have := h c hc
      rw [dead, List.all_eq_true] at this
      exact this x hx
theorem dead_mono (I : List (List UInt8)) : ∀ (k : Nat) (c : UInt8), dead I k c = true → dead I (k + 1) c = true
  | 0, c, h => by simp [dead] at h
  | k + 1, c, h => by
    rw [dead, List.all_eq_true] at h ⊢
    exact fun x hx => dead_mono I k x (h x hx)
theorem dead_le (I : List (List UInt8)) {k j : Nat} (h : k ≤ j) {c : UInt8} (hd : dead I k c = true) : dead I j c = true := by
  obtain ⟨d, rfl⟩ : ∃ d, j = k + d := ⟨j - k, by omega⟩
  clear h
  induction d with
  | zero => exact hd
  | succ d ih => exact dead_mono I (k + d) c ih
theorem self_alive {I : List (List UInt8)} {a : UInt8} (h : a ∈ img I a) : ∀ k, dead I k a = false
  | 0 => rfl
  | k + 1 => by
    have := self_alive h k
    cases e : dead I (k + 1) a with
    | false => rfl
    | true =>
      rw [dead, List.all_eq_true] at e
      rw [e a h] at this
      cases this

theorem cp_le {α : Type} (p q : α → Bool) : ∀ (l : List α), (∀ x ∈ l, p x = true → q x = true) → l.countP p ≤ l.countP q
  | [], _ => by simp
  | x :: l, h => by
    have ih := cp_le p q l (fun y hy => h y (List.mem_cons_of_mem _ hy))
    have hx := h x (List.mem_cons_self ..)
    rw [List.countP_cons, List.countP_cons]
    cases e : p x with
    | false => simp; omega
    | true => simp [hx e]; omega
theorem cp_lt {α : Type} (p q : α → Bool) : ∀ (l : List α), (∀ x ∈ l, p x = true → q x = true) → (∃ x ∈ l, q x = true ∧ p x = false) → l.countP p < l.countP q
  | [], _, h => by obtain ⟨x, hx, _⟩ := h; cases hx
  | x :: l, h, hex => by
    have hx := h x (List.mem_cons_self ..)
    have h' : ∀ y ∈ l, p y = true → q y = true := fun y hy => h y (List.mem_cons_of_mem _ hy)
    rw [List.countP_cons, List.countP_cons]
    obtain ⟨y, hy, hq, hp⟩ := hex
    rcases List.mem_cons.1 hy with rfl | hy
    · have := cp_le p q l h'
      simp [hq, hp]; omega
    · have ih := cp_lt p q l h' ⟨y, hy, hq, hp⟩
      cases e : p x with
      | false => simp; omega
      | true => simp [hx e]; omega
theorem cp_all {α : Type} (p : α → Bool) (l : List α) (h : l.length ≤ l.countP p) : ∀ x ∈ l, p x = true := by
  intro x hx
  cases e : p x with
  | true => rfl
  | false =>
    have := cp_lt p (fun _ => true) l (fun _ _ _ => rfl) ⟨x, hx, rfl, e⟩
    simp at this
    omega

def dn (I : List (List UInt8)) (k i : Nat) : Bool := dead I k (letr i)
theorem dead_stable_or (I : List (List UInt8)) (g : Mor I) : ∀ k, (∀ j i, i < I.length → dn I j i = true → dn I k i = true) ∨ k ≤ (List.range I.length).countP (dn I k)
  | 0 => .inr (Nat.zero_le _)
  | k + 1 => by
    rcases dead_stable_or I g k with h | h
    · exact .inl fun j i hi hj => dead_mono I k _ (h j i hi hj)
    · by_cases e : ∃ i, i < I.length ∧ dn I (k + 1) i = true ∧ dn I k i = false
      · obtain ⟨i, hi, h1, h2⟩ := e
        have := cp_lt (dn I k) (dn I (k + 1)) (List.range I.length) (fun x _ hx => dead_mono I k _ hx) ⟨i, List.mem_range.2 hi, h1, h2⟩
        exact .inr (by omega)
      · left
        have st : ∀ i, i < I.length → dn I (k + 1) i = true → dn I k i = true := by
          intro i hi h1
          cases e2 : dn I k i with
          | true => rfl
          | false => exact absurd ⟨i, hi, h1, e2⟩ e
        have up : ∀ d i, i < I.length → dn I (k + d) i = true → dn I k i = true := by
          intro d
          induction d with
          | zero => intro i _ h; exact h
          | succ d ih =>
            intro i hi hd
            refine st i hi ?_
            unfold dn at hd ⊢
            rw [show k + (d + 1) = (k + d) + 1 by omega, dead, List.all_eq_true] at hd
            rw [dead, List.all_eq_true]
            intro x hx
            have h5 := g.len5
            have hli : (letr i).toNat - 97 < I.length := by rw [letr_nat (by omega)]; omega
            have hl := (g.img hli).2 x hx
            have h3 := ih (x.toNat - 97) hl.2
            unfold dn at h3
            rw [letr_of hl.1] at h3
            exact h3 (hd x hx)
        intro j i hi hj
        refine dead_mono I k _ (up j i hi ?_)
        exact dead_le I (Nat.le_add_left j k) hj
/-- Where a letter stands in its own image, letters that die do so in m - 1 steps. -/
theorem dead_bound {I : List (List UInt8)} (g : Mor I) {a : UInt8} (ha : a.toNat - 97 < I.length) (h97 : 97 ≤ a.toNat) (hs : a ∈ img I a) {c : UInt8} (hc : c.toNat - 97 < I.length) (hc97 : 97 ≤ c.toNat) {k : Nat} (hd : dead I k c = true) : dead I (I.length - 1) c = true := by
  have h1 := g.len1
  rcases dead_stable_or I g (I.length - 1) with h | h
  · have := h k (c.toNat - 97) hc (by unfold dn; rw [letr_of hc97]; exact hd)
    unfold dn at this
    rwa [letr_of hc97] at this
  · cases e : dead I (I.length - 1) c with
    | true => rfl
    | false =>
      exfalso
      have hca : c.toNat ≠ a.toNat := by
        intro e2
        have e3 : c = a := UInt8.toNat_inj.1 e2
        subst e3
        rw [self_alive hs k] at hd
        cases hd
      have h2 := cp_lt (dn I (I.length - 1)) (fun i => !decide (i = a.toNat - 97)) (List.range I.length) (fun x hx hp => by
        simp
        intro e2
        subst e2
        unfold dn at hp
        rw [letr_of h97, self_alive hs] at hp
        cases hp) ⟨c.toNat - 97, List.mem_range.2 hc, by simp; omega, by unfold dn; rw [letr_of hc97]; exact e⟩
      have h3 := cp_lt (fun i => !decide (i = a.toNat - 97)) (fun _ => true) (List.range I.length) (fun _ _ _ => rfl) ⟨a.toNat - 97, List.mem_range.2 ha, rfl, by simp⟩
      simp at h3
      omega

/-- Behind the letter, no iterate is empty. -/
def growsI (I : List (List UInt8)) (u : List UInt8) : Prop := ∀ k, k < I.length → hk I k u ≠ []
def growsS (I : List (List UInt8)) (u : List UInt8) : Prop := ∃ c ∈ u, ∀ k, dead I k c = false
theorem grows_iff {I : List (List UInt8)} (g : Mor I) {a : UInt8} (ha : a.toNat - 97 < I.length) (h97 : 97 ≤ a.toNat) {u : List UInt8} (hu : img I a = a :: u) : growsI I u ↔ growsS I u := by
  have hm : a ∈ img I a := by rw [hu]; exact List.mem_cons_self ..
  have hl := (g.img ha).2
  rw [hu] at hl
  have h1 := g.len1
  constructor
  · intro h
    have h2 := h (I.length - 1) (by omega)
    by_cases e : ∃ c ∈ u, dead I (I.length - 1) c = false
    · obtain ⟨c, hc, hd⟩ := e
      refine ⟨c, hc, fun k => ?_⟩
      cases e2 : dead I k c with
      | false => rfl
      | true =>
        have := hl c (List.mem_cons_of_mem _ hc)
        rw [dead_bound g ha h97 hm this.2 this.1 e2] at hd
        cases hd
    · refine absurd ((dead_iff I _ _).2 fun c hc => ?_) h2
      cases e2 : dead I (I.length - 1) c with
      | true => rfl
      | false => exact absurd ⟨c, hc, e2⟩ e
  · rintro ⟨c, hc, hd⟩ k _ he
    have := (dead_iff I k u).1 he c hc
    rw [hd k] at this
    cases this
theorem growsS_all {I : List (List UInt8)} {u : List UInt8} (h : growsS I u) : ∀ k, hk I k u ≠ [] := by
  obtain ⟨c, hc, hd⟩ := h
  intro k he
  have := (dead_iff I k u).1 he c hc
  rw [hd k] at this
  cases this

/-! ### Iterates of a letter that grows are beginnings of one another. -/
theorem hk_cons {I : List (List UInt8)} {a : UInt8} {u : List UInt8} (hu : img I a = a :: u) (k : Nat) : hk I (k + 1) [a] = hk I k [a] ++ hk I k u := by
  have e : imgOf I [a] = [a] ++ u := by
    show [a].flatMap (img I) = _
    simp [hu]
  rw [hk_head, e, hk_app]
theorem hk_pre {I : List (List UInt8)} {a : UInt8} {u : List UInt8} (hu : img I a = a :: u) {k j : Nat} (h : k ≤ j) : hk I k [a] <+: hk I j [a] := by
  obtain ⟨d, rfl⟩ : ∃ d, j = k + d := ⟨j - k, by omega⟩
  clear h
  induction d with
  | zero => exact List.prefix_refl _
  | succ d ih => exact ih.trans ⟨hk I (k + d) u, (hk_cons hu (k + d)).symm⟩
theorem hk_longer {I : List (List UInt8)} {a : UInt8} {u : List UInt8} (hu : img I a = a :: u) (h : ∀ k, hk I k u ≠ []) (k : Nat) : k < (hk I k [a]).length := by
  induction k with
  | zero => simp [hk]
  | succ k ih =>
    rw [hk_cons hu, List.length_append]
    have := List.length_pos_iff.2 (h k)
    omega
theorem pre_take {α : Type} {l m : List α} (h : l <+: m) {n : Nat} (hn : n ≤ l.length) : l.take n = m.take n := by
  obtain ⟨t, rfl⟩ := h
  rw [List.take_append_of_le_length hn]
/-- The grown word of n letters. -/
def grownW (I : List (List UInt8)) (a : UInt8) (n : Nat) : List UInt8 := (hk I n [a]).take n
theorem grown_of {I : List (List UInt8)} {a : UInt8} {u : List UInt8} (hu : img I a = a :: u) (h : ∀ k, hk I k u ≠ []) {n k : Nat} (hn : n ≤ (hk I k [a]).length) : (hk I k [a]).take n = grownW I a n := by
  unfold grownW
  rcases Nat.le_total k n with e | e
  · exact pre_take (hk_pre hu e) hn
  · exact (pre_take (hk_pre hu e) (by have := hk_longer hu h n; omega)).symm
/-- The images of the first p letters, of an iterate that is long enough, are more letters than p. -/
theorem img_more {I : List (List UInt8)} {a : UInt8} {u : List UInt8} (hu : img I a = a :: u) (h : ∀ k, hk I k u ≠ []) {p K : Nat} (hp : 1 ≤ p) (hK : p ≤ (hk I K [a]).length) : p < (imgOf I ((hk I K [a]).take p)).length := by
  apply Nat.lt_of_not_le
  intro hle
  have hpre : ∀ q r, q ≤ r → imgOf I ((hk I K [a]).take q) <+: imgOf I ((hk I K [a]).take r) := by
    intro q r hqr
    have : (hk I K [a]).take q <+: (hk I K [a]).take r := List.take_prefix_take_left hqr
    obtain ⟨t, ht⟩ := this
    rw [← ht, imgOf_app]
    exact List.prefix_append _ _
  -- every iterate is at most the first p letters
  have all : ∀ k, (hk I k [a]).length ≤ p ∧ hk I k [a] <+: (hk I (k + K) [a]).take p := by
    intro k
    induction k with
    | zero =>
      refine ⟨hp, ?_⟩
      rw [Nat.zero_add, hk_zero]
      have : [a] <+: hk I K [a] := hk_pre hu (Nat.zero_le K)
      exact (List.prefix_take_iff.2 ⟨this, hp⟩)
    | succ k ih =>
      have hy : (hk I (k + K) [a]).take p = (hk I K [a]).take p := (pre_take (hk_pre hu (by omega)) hK).symm
      obtain ⟨t, ht⟩ := ih.2
      have h2 : hk I (k + 1) [a] <+: imgOf I ((hk I K [a]).take p) := by
        rw [hk_succ, ← hy, ← ht, imgOf_app]
        exact List.prefix_append _ _
      have h3 := h2.length_le
      refine ⟨by omega, List.prefix_take_iff.2 ⟨hk_pre hu (by omega), by omega⟩⟩
  have := (all p).1
  have := hk_longer hu h p
  omega
end Go.Proofs.Ytolboinemechpab

/-! ### VecPlain -/
namespace Go.Proofs.Ytolboinemechpab
set_option linter.unusedVariables false
set_option linter.unusedSimpArgs false
open Go.RowKit

/-- The sum over the first n letters: how often the letter, times how often j stands in its image. -/
def acc (I : List (List UInt8)) (v : Nat → Nat) (j : Nat) : Nat → Nat
  | 0 => 0
  | n + 1 => acc I v j n + v n * ct (I.getD n []) j
theorem acc_zero (I : List (List UInt8)) (v : Nat → Nat) (j : Nat) : acc I v j 0 = 0 := rfl
theorem acc_succ (I : List (List UInt8)) (v : Nat → Nat) (j n : Nat) : acc I v j (n + 1) = acc I v j n + v n * ct (I.getD n []) j := rfl
theorem acc_add (I : List (List UInt8)) (v u : Nat → Nat) (j : Nat) : ∀ n, acc I (fun i => v i + u i) j n = acc I v j n + acc I u j n
  | 0 => rfl
  | n + 1 => by rw [acc_succ, acc_succ, acc_succ, acc_add I v u j n, Nat.add_mul]; omega
theorem acc_none (I : List (List UInt8)) (v : Nat → Nat) (j : Nat) : ∀ n, (∀ i, i < n → v i = 0) → acc I v j n = 0
  | 0, _ => rfl
  | n + 1, h => by rw [acc_succ, acc_none I v j n (fun i hi => h i (by omega)), h n (by omega), Nat.zero_mul]
theorem acc_one (I : List (List UInt8)) (v : Nat → Nat) (j i0 : Nat) : ∀ n, i0 < n → (∀ i, i < n → v i = if i0 = i then 1 else 0) → acc I v j n = ct (I.getD i0 []) j
  | 0, h, _ => by omega
  | n + 1, h, hv => by
    rw [acc_succ, hv n (by omega)]
    by_cases e : i0 = n
    · subst e
      rw [if_pos rfl, Nat.one_mul, acc_none I v j i0 (fun i hi => by rw [hv i (by omega), if_neg (by omega)]), Nat.zero_add]
    · rw [if_neg e, Nat.zero_mul, Nat.add_zero]
      exact acc_one I v j i0 n (by omega) (fun i hi => hv i (by omega))
theorem acc_congr (I : List (List UInt8)) (v u : Nat → Nat) (j : Nat) : ∀ n, (∀ i, i < n → v i = u i) → acc I v j n = acc I u j n
  | 0, _ => rfl
  | n + 1, h => by rw [acc_succ, acc_succ, acc_congr I v u j n (fun i hi => h i (by omega)), h n (by omega)]
/-- Counts of an image. -/
theorem acc_img {I : List (List UInt8)} (g : Mor I) (j : Nat) : ∀ (l : List UInt8), lets I l → acc I (ct l) j I.length = ct (imgOf I l) j
  | [], _ => by rw [acc_none I _ j _ (fun i _ => ct_nil i), imgOf_nil, ct_nil]
  | c :: l, h => by
    have hc := h c (List.mem_cons_self ..)
    have h5 := g.len5
    have e1 : imgOf I (c :: l) = img I c ++ imgOf I l := rfl
    rw [e1, ct_app, ← acc_img g j l (fun x hx => h x (List.mem_cons_of_mem _ hx))]
    rw [acc_congr I (ct (c :: l)) (fun i => ct [c] i + ct l i) j _ (fun i _ => ct_cons c l i), acc_add]
    congr 1
    have := acc_one I (ct [c]) j (c.toNat - 97) I.length hc.2 (fun i hi => by
      have e2 : c = letr (c.toNat - 97) := (letr_of hc.1).symm
      conv => lhs; rw [e2]
      exact ct_one (by omega) (by omega))
    rw [this]
    rfl
theorem acc_mono (I : List (List UInt8)) (v : Nat → Nat) (j : Nat) {n m : Nat} (h : n ≤ m) : acc I v j n ≤ acc I v j m := by
  obtain ⟨d, rfl⟩ : ∃ d, m = n + d := ⟨m - n, by omega⟩
  clear h
  induction d with
  | zero => exact Nat.le_refl _
  | succ d ih => rw [show n + (d + 1) = n + d + 1 by omega, acc_succ]; omega

/-- The lengths of iterates. -/
def lensL (I : List (List UInt8)) (a : UInt8) (k : Nat) : List Int := (List.range (k + 1)).map fun i => ((hk I i [a]).length : Int)
theorem lensL_len (I : List (List UInt8)) (a : UInt8) (k : Nat) : (lensL I a k).length = k + 1 := by simp [lensL]
theorem lensL_snoc (I : List (List UInt8)) (a : UInt8) (k : Nat) : lensL I a (k + 1) = lensL I a k ++ [((hk I (k + 1) [a]).length : Int)] := by
  unfold lensL
  rw [List.range_succ (n := k + 1), List.map_append]
  rfl
def big15 : Nat := 1000000000000000
def lenOver (I : List (List UInt8)) (a : UInt8) (k : Nat) : Prop := ∃ i, i < k + 1 ∧ big15 < (hk I i [a]).length
def lenTo (I : List (List UInt8)) (a : UInt8) (k : Nat) : Prop := ∀ i, i < k + 1 → (hk I i [a]).length ≤ big15
theorem lenTo.succ {I : List (List UInt8)} {a : UInt8} {k : Nat} (h : lenTo I a k) (h2 : (hk I (k + 1) [a]).length ≤ big15) : lenTo I a (k + 1) := by
  intro i hi
  by_cases e : i = k + 1
  · subst e; exact h2
  · exact h i (by omega)
theorem lenTo.not {I : List (List UInt8)} {a : UInt8} {k : Nat} (h : lenTo I a k) : ¬ lenOver I a k := by
  rintro ⟨i, hi, hb⟩
  have := h i hi
  omega
noncomputable instance (I : List (List UInt8)) (a : UInt8) (k : Nat) : Decidable (lenOver I a k) := Classical.propDecidable _
noncomputable def lensR (I : List (List UInt8)) (q k : Int) : List Int × Int :=
  if ¬ Mor I then ([], 1) else if q < 0 ∨ (I.length : Int) ≤ q ∨ k < 0 ∨ 20 < k then ([], 2) else if lenOver I (letr q.toNat) k.toNat then ([], 3) else (lensL I (letr q.toNat) k.toNat, 0)
theorem lensR_bad {I : List (List UInt8)} {q k : Int} (h : ¬ Mor I) : lensR I q k = ([], 1) := if_pos h
theorem lensR_out {I : List (List UInt8)} {q k : Int} (h : Mor I) (hq : q < 0 ∨ (I.length : Int) ≤ q ∨ k < 0 ∨ 20 < k) : lensR I q k = ([], 2) := by
  unfold lensR; rw [if_neg (not_not_intro h), if_pos hq]
theorem lensR_over {I : List (List UInt8)} {q k : Nat} (h : Mor I) (hq : q < I.length) (hk' : k ≤ 20) (ho : lenOver I (letr q) k) : lensR I (q : Int) (k : Int) = ([], 3) := by
  unfold lensR; rw [if_neg (not_not_intro h), if_neg (by omega)]; simp only [Int.toNat_natCast]; rw [if_pos ho]
theorem lensR_ok {I : List (List UInt8)} {q k : Nat} (h : Mor I) (hq : q < I.length) (hk' : k ≤ 20) (ho : lenTo I (letr q) k) : lensR I (q : Int) (k : Int) = (lensL I (letr q) k, 0) := by
  unfold lensR; rw [if_neg (not_not_intro h), if_neg (by omega)]; simp only [Int.toNat_natCast]; rw [if_neg ho.not]
theorem lensR_len (I : List (List UInt8)) (q k : Int) : (lensR I q k).1.length ≤ 4096 := by
  unfold lensR
  split
  · simp
  · split
    · simp
    · split
      · simp
      · simp [lensL]; omega
end Go.Proofs.Ytolboinemechpab

/-! ### LettersPlain -/
namespace Go.Proofs.Ytolboinemechpab
set_option linter.unusedVariables false
set_option linter.unusedSimpArgs false
open Go.RowKit

def numsR (x : ByteArray) : List Int := x.data.toList.map fun b => (b.toNat : Int) - 97
theorem numsR_len (x : ByteArray) : (numsR x).length = x.size := by
  unfold numsR
  rw [List.length_map]
  rfl
theorem numsR_get (x : ByteArray) (k : Nat) (h : k < (numsR x).length) (h' : k < x.size) : (numsR x)[k]'h = ((x[k]'h').toNat : Int) - 97 := by
  have h2 : k < (x.data.toList.map fun b => (b.toNat : Int) - 97).length := h
  have e : (x.data.toList.map fun b => (b.toNat : Int) - 97)[k]'h2 = ((x.data.toList[k]'(by simpa using h2)).toNat : Int) - 97 := List.getElem_map ..
  exact e
theorem nums_snoc (L : List Int) (k : Nat) (h : k < L.length) : (L.take k).map (Value.int .i64) ++ [Value.int .i64 (L[k]'h)] = (L.take (k + 1)).map (Value.int .i64) := by
  rw [List.take_succ_eq_append_getElem h, List.map_append]; rfl
def lettersR (x : ByteArray) : List Int × Int := if ¬ IsW x then ([], 1) else (numsR x, 0)
theorem lettersR_bad {x : ByteArray} (h : ¬ IsW x) : lettersR x = ([], 1) := if_pos h
theorem lettersR_ok {x : ByteArray} (h : IsW x) : lettersR x = (numsR x, 0) := by unfold lettersR; rw [if_neg (not_not_intro h)]
theorem lettersR_len (x : ByteArray) : (lettersR x).1.length ≤ 4096 := by
  by_cases h : IsW x
  · rw [lettersR_ok h, numsR_len]; have := h.size; omega
  · rw [lettersR_bad h]; decide

end Go.Proofs.Ytolboinemechpab

/-! ### Numbers -/
namespace Go.Proofs.Ytolboinemechpab
set_option linter.unusedVariables false
set_option linter.unusedSimpArgs false
open Go.RowKit

set_option maxRecDepth 100000 in
theorem l01At_any (x : ByteArray) (k : Nat) (w : World) (h : k < x.size) (hs : x.size ≤ 60) :
    Calls Try.prog 121 #[.string x, .int .i64 k] w fun e w' => e = .returned (.int .i64 (((x[k]'h).toNat : Int) - 97)) ∧ Below w.heap.size w w' := by
  have hb : (x[k]'h).toNat ≤ 255 := by have := (x[k]'h).toNat_lt; omega
  go_enter Try.func121, Try.ntmps121
  go_wp2
  go_ret
  exact ⟨rfl, Below.refl _ _⟩

set_option maxRecDepth 100000 in
set_option maxHeartbeats 1000000 in
theorem numbersOf_any (x : ByteArray) (w : World) (h : IsW x) :
    Calls Try.prog 68 #[.string x] w fun e w' => ∃ v, e = .returned v ∧ OwnI w' w.heap.size v (numsR x) ∧ Below w.heap.size w w' := by
  obtain ⟨i0, hi, hz0, hz1, hz2⟩ := info_parts infoI64
  have h1 := h.size
  have H := Lib.hid h
  clear h
  go_enter Try.func68, Try.ntmps68
  go_wp2
  go_loopw [3] (fun v wr => ∃ k : Nat, k ≤ x.size ∧ wr.heap[w.heap.size]? = some (.stringIter x k) ∧ wr.ownsRow (w.heap.size + 1) 2 1 v k (((numsR x).take k).map (Value.int .i64)) ∧ Below w.heap.size w wr ∧ w.heap.size < wr.heap.size)
    (fun _ wr => x.size - wr.iterPos w.heap.size)
  case atStart => exact ⟨0, Nat.zero_le _, World.iter_heap w x 0, World.ownsRow_nil _ _ _ _, Below.new _ _, by simp [World.iter]⟩
  case round =>
    rename_i u3 _
    obtain ⟨k, hk, hit, hown, hB, hsz⟩ := hrel
    by_cases hp : k < x.size
    · have hlo := H.out.lo k hp
      have hhi := H.out.hi k hp
      have hnx : ∀ ty, (Instr.next (.pointer (some ⟨w.heap.size, 0, none⟩)) true ty).run Try.prog wr = _ := fun ty => Lib.run_next_ascii_at wr w.heap.size x k ty hit hp (by omega)
      have hsn := nums_snoc (numsR x) k (by rw [numsR_len]; exact hp)
      rw [numsR_get x k _ hp] at hsn
      have HS := Lib.hid hsn
      clear hsn
      have hit2 := Lib.iterAt_heap wr w.heap.size x k (k + 1) hit
      have hB2 := Lib.below_iterAt hB (Nat.le_refl _) x (k + 1)
      have hown := ownsRow_iterAt hown (Nat.lt_succ_self _) x (k + 1)
      have hsz2 : w.heap.size < (wr.iterAt w.heap.size x (k + 1)).heap.size := by rw [Lib.iterAt_size]; exact hsz
      have HIT := Lib.hid hit
      have HIT2 := Lib.hid hit2
      clear hit hit2
      generalize hgw : wr.iterAt w.heap.size x (k + 1) = wi at *
      have HG := Lib.hid hgw
      clear hgw
      go_wp2_with (at_builtin; refine wpList_append_own _ rfl _ _ 32 rfl (w.heap.size + 1) 2 i0 (.int .i64 0) 1 8 Try.underlying32 hi hz0 hz1 hz2 rfl (by decide) _ _ _ rfl (hown.alloc _) ⟨_, 0, none⟩ 1 1 [.int .i64 (((x[k]'hp).toNat : Int) - 97)] rfl rfl (cell_new _ _ _) (by intro u hu; simp at hu; subst hu; rfl) (by unfold maxLen; omega) (by omega) (by simp; omega) ?_; intro v' w1 hown' hgrow _)
      have hkeep : w1.heap[w.heap.size]? = some (.stringIter x (k + 1)) := by
        rw [hgrow.block _ (by simp; omega) (fun e => by have := (hown.lt _ e.symm).1; omega), Below.heap_alloc _ _ _ hsz2]
        exact HIT2.out
      have hB3 : Below w.heap.size w w1 := (hB2.alloc (Nat.le_of_lt hsz2) _).grown hgrow (by simp; omega) (fun q hq => Nat.le_of_lt (hown.lt q hq).1)
      have hsz3 : w.heap.size < w1.heap.size := by have := hgrow.size; simp at this; omega
      have HK := Lib.hid hkeep
      clear hkeep
      go_roundw
      case rel => exact ⟨k + 1, by omega, HK.out, by rw [← HS.out]; exact hown', hB3, hsz3⟩
      case measure => simp only [World.iterPos, HK.out, HIT.out]; omega
    · have hke : k = x.size := by omega
      subst hke
      have hnx : ∀ ty, (Instr.next (.pointer (some ⟨w.heap.size, 0, none⟩)) true ty).run Try.prog wr = _ := fun ty => Lib.run_next_end_at wr w.heap.size x x.size ty hit hp
      have HO := Lib.hid hown
      clear hown
      go_wp2
      go_ret
      refine ⟨_, rfl, ?_, hB⟩
      have h2 := HO.out
      rw [List.take_of_length_le (by rw [numsR_len]; exact Nat.le_refl _)] at h2
      unfold OwnI
      rw [numsR_len]
      exact own_base h2 (Nat.le_succ _)

end Go.Proofs.Ytolboinemechpab

/-! ### V5 -/
namespace Go.Proofs.Ytolboinemechpab
set_option linter.unusedVariables false
set_option linter.unusedSimpArgs false
open Go.RowKit

/-- An array of five numbers. -/
abbrev vecV (f : Nat → Nat) : Value := .agg #[.int .i64 (f 0 : Int), .int .i64 (f 1 : Int), .int .i64 (f 2 : Int), .int .i64 (f 3 : Int), .int .i64 (f 4 : Int)]

theorem part5 (w : World) (x0 x1 x2 x3 x4 : Int) (j : Nat) (hj : j < 5) : (part 2 #[.int .i64 x0, .int .i64 x1, .int .i64 x2, .int .i64 x3, .int .i64 x4] j).run Try.prog w = .ok ([Value.int .i64 x0, .int .i64 x1, .int .i64 x2, .int .i64 x3, .int .i64 x4].getD j undef) w := by
  rcases (show j = 0 ∨ j = 1 ∨ j = 2 ∨ j = 3 ∨ j = 4 by omega) with rfl | rfl | rfl | rfl | rfl <;> simp [part, isAgg, run_underlying Try.underlying2]
/-- Two arrays compared. -/
theorem eq5_run (w : World) (x0 x1 x2 x3 x4 y0 y1 y2 y3 y4 : Int) :
    (Op.equalIn 10000 80 (.agg #[.int .i64 x0, .int .i64 x1, .int .i64 x2, .int .i64 x3, .int .i64 x4]) (.agg #[.int .i64 y0, .int .i64 y1, .int .i64 y2, .int .i64 y3, .int .i64 y4])).run Try.prog w = .ok (decide (x0 = y0 ∧ x1 = y1 ∧ x2 = y2 ∧ x3 = y3 ∧ x4 = y4)) w := by
  obtain ⟨i0, hi, _, _, _⟩ := info_parts infoI64
  rw [show (10000 : Nat) = 9999 + 1 from rfl, run_equalIn_array w 9999 _ _ Try.underlying80 hi, show Try.prog.cellsOf 2 = 1 by kernel_rfl]
  have hr : List.range 5 = [0, 1, 2, 3, 4] := rfl
  have he : ∀ (W : World) (a b : Int), (Op.equalIn 9999 2 (.int .i64 a) (.int .i64 b)).run Try.prog W = .ok (a == b) W := fun W a b => run_equalIn_int W 9998 2 .i64 .i64 a b Try.underlying2
  have q0 := fun W x0 x1 x2 x3 x4 => part5 W x0 x1 x2 x3 x4 0 (by omega)
  have q1 := fun W x0 x1 x2 x3 x4 => part5 W x0 x1 x2 x3 x4 1 (by omega)
  have q2 := fun W x0 x1 x2 x3 x4 => part5 W x0 x1 x2 x3 x4 2 (by omega)
  have q3 := fun W x0 x1 x2 x3 x4 => part5 W x0 x1 x2 x3 x4 3 (by omega)
  have q4 := fun W x0 x1 x2 x3 x4 => part5 W x0 x1 x2 x3 x4 4 (by omega)
  simp only [hr, Op.eqItems, Nat.mul_one, Sem.run_bind, q0, q1, q2, q3, q4, Result.andThen_ok, List.getD_cons_zero, List.getD_cons_succ, he]
  by_cases h0 : x0 = y0
  · by_cases h1 : x1 = y1
    · by_cases h2 : x2 = y2
      · by_cases h3 : x3 = y3
        · by_cases h4 : x4 = y4
          · simp [h0, h1, h2, h3, h4, q0, q1, q2, q3, q4, he]
          · simp [h0, h1, h2, h3, h4, q0, q1, q2, q3, q4, he]
        · simp [h0, h1, h2, h3, q0, q1, q2, q3, q4, he]
      · simp [h0, h1, h2, q0, q1, q2, q3, q4, he]
    · simp [h0, h1, q0, q1, q2, q3, q4, he]
  · simp [h0, q0, q1, q2, q3, q4, he]

/-- An array of five numbers in a block of its own. -/
def Arr5 (W : World) (b : Nat) (f : Nat → Nat) : Prop := W.heap[b]? = some (.cells #[.int .i64 (f 0 : Int), .int .i64 (f 1 : Int), .int .i64 (f 2 : Int), .int .i64 (f 3 : Int), .int .i64 (f 4 : Int)] 80 (0, 0))
theorem Arr5.lt {W : World} {b : Nat} {f : Nat → Nat} (h : Arr5 W b f) : b < W.heap.size := (Array.getElem?_eq_some_iff.1 h).1
theorem Arr5.cell {W : World} {b : Nat} {f : Nat → Nat} (h : Arr5 W b f) (j : Nat) (hj : j < 5) : W.cell? ⟨b, j, none⟩ = some (.int .i64 (f j : Int)) := by
  rcases (show j = 0 ∨ j = 1 ∨ j = 2 ∨ j = 3 ∨ j = 4 by omega) with rfl | rfl | rfl | rfl | rfl <;> simp [World.cell?, show W.heap[b]? = _ from h]
theorem Arr5.frozen {W : World} {b : Nat} {f : Nat → Nat} (h : Arr5 W b f) (j : Nat) : W.frozen? ⟨b, j, none⟩ = false := by simp [World.frozen?, show W.heap[b]? = _ from h]
theorem Arr5.later {W W' : World} {b : Nat} {f : Nat → Nat} (h : Arr5 W b f) (k : Below W.heap.size W W') : Arr5 W' b f := (k.block _ h.lt).trans h
theorem Arr5.new (W : World) (f : Nat → Nat) : Arr5 (W.alloc (.cells #[.int .i64 (f 0 : Int), .int .i64 (f 1 : Int), .int .i64 (f 2 : Int), .int .i64 (f 3 : Int), .int .i64 (f 4 : Int)] 80)) W.heap.size f := World.alloc_heap_new W _
theorem Arr5.congr {W : World} {b : Nat} {f g : Nat → Nat} (h : Arr5 W b f) (e : ∀ j, j < 5 → f j = g j) : Arr5 W b g := by
  unfold Arr5 at h ⊢
  rw [h, e 0 (by omega), e 1 (by omega), e 2 (by omega), e 3 (by omega), e 4 (by omega)]
theorem Arr5.other {W : World} {b : Nat} {f : Nat → Nat} (h : Arr5 W b f) {b' j : Nat} (hne : b ≠ b') (u : Value) : Arr5 (W.setCell ⟨b', j, none⟩ u) b f := (Below.heap_setCell _ _ _ b (fun e => hne (by rw [e]))).trans h
theorem Arr5.set {W : World} {b : Nat} {f : Nat → Nat} (h : Arr5 W b f) (j : Nat) (hj : j < 5) (x : Nat) : Arr5 (W.setCell ⟨b, j, none⟩ (.int .i64 (x : Int))) b (fun i => if i = j then x else f i) := by
  obtain ⟨hlt, hk⟩ := Array.getElem?_eq_some_iff.1 h
  show (W.heap.modify b _)[b]? = _
  rw [Array.getElem?_eq_getElem (by rw [Array.size_modify]; exact hlt), Array.getElem_modify_self, hk]
  rcases (show j = 0 ∨ j = 1 ∨ j = 2 ∨ j = 3 ∨ j = 4 by omega) with rfl | rfl | rfl | rfl | rfl <;> rfl

theorem own_value5 {w : World} {B : Nat} {v : Value} {L : List Int} (h : OwnI w B v L) : ∃ a c, v = .slice a L.length c := by
  rcases own_forms h with ⟨rfl, h0, _⟩ | ⟨g, cap, hv, _⟩
  · exact ⟨none, 0, by rw [h0]⟩
  · exact ⟨_, cap, hv⟩
theorem grownBy_setCellJ (W : World) (b j : Nat) (v : Value) : W.grownBy (W.setCell ⟨b, j, none⟩ v) (some b) :=
  ⟨rfl, rfl, rfl, (KeepsWalks.setCell W _ v).size, fun k _ hk => Below.heap_setCell _ _ _ k (fun e => hk (by rw [e]))⟩
theorem own_setFar {w : World} {B b j g n c : Nat} {e : TypeId} {xs : List Value} {m : Nat} {u : Value} (h : w.ownsRow B e 1 (.slice (some ⟨g, 0, none⟩) n c) m xs) (hne : b ≠ g) : (w.setCell ⟨b, j, none⟩ u).ownsRow B e 1 (.slice (some ⟨g, 0, none⟩) n c) m xs :=
  World.ownsRow.kept h (grownBy_setCellJ w b j u) (.inr fun e => hne (by injection e with e; exact e.symm))

/-- An array's cell, by value. -/
theorem idx5 (f : Nat → Nat) (j : Nat) (hj : j < 5) (W : World) : (Instr.index 80 (vecV f) (.int .i64 (j : Int))).run Try.prog W = .ok (.int .i64 (f j : Int)) W := by
  have hs : Try.prog.cellsOf 2 = 1 := by kernel_rfl
  obtain ⟨i0, hi, _, hs1, _⟩ := info_parts infoI64
  rcases (show j = 0 ∨ j = 1 ∨ j = 2 ∨ j = 3 ∨ j = 4 by omega) with rfl | rfl | rfl | rfl | rfl <;> simp [Instr.index, run_underlying Try.underlying80, run_underlying Try.underlying2, run_sizeOf _ hi, hs1, asIntOf, part, isAgg, hs, go_sem]

end Go.Proofs.Ytolboinemechpab

/-! ### Vec -/
namespace Go.Proofs.Ytolboinemechpab
set_option linter.unusedVariables false
set_option linter.unusedSimpArgs false
open Go.RowKit

set_option maxRecDepth 100000 in
set_option maxHeartbeats 1000000 in
theorem oneLetter_any (q : Nat) (hq : q < 5) (w : World) :
    Calls Try.prog 111 #[.int .i64 (q : Int)] w fun e w' => e = .returned (vecV (ct [letr q])) ∧ Below w.heap.size w w' := by
  rcases (show q = 0 ∨ q = 1 ∨ q = 2 ∨ q = 3 ∨ q = 4 by omega) with rfl | rfl | rfl | rfl | rfl
  all_goals
    go_enter Try.func111, Try.ntmps111
    go_wp2
    exact bodyPost_ret (v := vecV (ct [letr _])) (by simp [results, Try.results111, go_sem]; decide) rfl ⟨rfl, (Below.new _ _).alloc (by simp) _⟩

set_option maxRecDepth 100000 in
set_option maxHeartbeats 2000000 in
theorem counts_any (B : Nat) (v : Value) (I : List (List UInt8)) (cnt : Nat → Nat) (w : World) (h : OwnS w B v (I.map bt)) (g : Mor I) (hM : ∀ j, j < 5 → acc I cnt j I.length ≤ 4000000000000000000) :
    Calls Try.prog 112 #[.agg #[v], vecV cnt] w fun e w' => e = .returned (vecV (fun j => acc I cnt j I.length)) ∧ Below w.heap.size w w' := by
  have hmo : Try.prog.follows .mixedOrders = true := by kernel_rfl
  have h1 := g.len1
  have h5 := g.len5
  obtain ⟨p, cap, rfl, hg, hc, cell⟩ := h.rowM (by omega)
  obtain ⟨W1, hW1⟩ : ∃ W1 : World, W1 = (((w.alloc (.cells #[.slice (some ⟨p, 0, none⟩) I.length cap] 53)).alloc (.cells #[.int .i64 (cnt 0 : Int), .int .i64 (cnt 1 : Int), .int .i64 (cnt 2 : Int), .int .i64 (cnt 3 : Int), .int .i64 (cnt 4 : Int)] 80)).alloc (.cells #[.int .i64 0, .int .i64 0, .int .i64 0, .int .i64 0, .int .i64 0] 80)).alloc (.cells #[.int .i64 0, .int .i64 0, .int .i64 0, .int .i64 0, .int .i64 0] 80) := ⟨_, rfl⟩
  have a1 : Arr5 W1 (w.heap.size + 1) cnt := by
    have := Arr5.new (w.alloc (.cells #[.slice (some ⟨p, 0, none⟩) I.length cap] 53)) cnt
    rw [World.size_alloc] at this
    rw [hW1]
    exact (this.later (Below.new _ _)).later (Below.new _ _)
  have a2 : Arr5 W1 (w.heap.size + 1 + 1) (fun _ => 0) := by
    have := Arr5.new ((w.alloc (.cells #[.slice (some ⟨p, 0, none⟩) I.length cap] 53)).alloc (.cells #[.int .i64 (cnt 0 : Int), .int .i64 (cnt 1 : Int), .int .i64 (cnt 2 : Int), .int .i64 (cnt 3 : Int), .int .i64 (cnt 4 : Int)] 80)) (fun _ => 0)
    simp only [World.size_alloc] at this
    rw [hW1]
    exact this.later (Below.new _ _)
  have a3 : Arr5 W1 (w.heap.size + 1 + 1 + 1) (fun _ => 0) := by
    have := Arr5.new (((w.alloc (.cells #[.slice (some ⟨p, 0, none⟩) I.length cap] 53)).alloc (.cells #[.int .i64 (cnt 0 : Int), .int .i64 (cnt 1 : Int), .int .i64 (cnt 2 : Int), .int .i64 (cnt 3 : Int), .int .i64 (cnt 4 : Int)] 80)).alloc (.cells #[.int .i64 0, .int .i64 0, .int .i64 0, .int .i64 0, .int .i64 0] 80)) (fun _ => 0)
    simp only [World.size_alloc] at this
    rw [hW1]
    exact this
  have B1 : Below w.heap.size w W1 := by rw [hW1]; exact (((Below.new _ _).alloc (by simp) _).alloc (by simp; omega) _).alloc (by simp; omega) _
  have hz1 : W1.heap.size = w.heap.size + 4 := by rw [hW1]; simp
  have C := Lib.hid cell
  have G := Lib.hid g
  have HM := Lib.hid hM
  have HZ := Lib.hid hz1
  have HW1 := Lib.hid hW1
  have A1 := Lib.hid a1
  have A2 := Lib.hid a2
  have A3 := Lib.hid a3
  have hbase : w.heap.size + 4 ≤ W1.heap.size := by omega
  clear h cell g hM a1 a2 a3 hW1 hz1
  go_enter Try.func112, Try.ntmps112
  go_wp2_with fail
  rw [← HW1.out]
  go_loopw [13] (fun t wr => ∃ i : Nat, i ≤ I.length ∧ t = .int .i64 (i : Int) ∧ Arr5 wr (w.heap.size + 1) cnt ∧ Arr5 wr (w.heap.size + 1 + 1) (fun _ => 0) ∧ Arr5 wr (w.heap.size + 1 + 1 + 1) (fun j => acc I cnt j i) ∧ Below w.heap.size w wr ∧ w.heap.size + 4 ≤ wr.heap.size) (fun t _ => I.length - (intOf t).toNat)
  case atStart => exact ⟨0, Nat.zero_le _, rfl, A1.out, A2.out, A3.out, B1, hbase⟩
  case round =>
    obtain ⟨i, hi, rfl, a1, a2, a3, hB, hbs⟩ := hrel
    by_cases hp : i < I.length
    · have kc : wr.cell? ⟨p, i, none⟩ = some (.string (bt (I[i]'hp))) := by rw [(bcell hB).1 p i hg]; exact C.out i hp
      obtain ⟨s12, sw, sf⟩ := G.out.im i hp
      have hlz := lets_of sw sf
      rw [lt_bt] at hlz
      have hge : I.getD i [] = I[i]'hp := by rw [List.getD_eq_getElem?_getD, List.getElem?_eq_getElem hp]; rfl
      have hacc : ∀ j, acc I cnt j (i + 1) = acc I cnt j i + cnt i * ct (I[i]'hp) j := fun j => by rw [acc_succ, hge]
      have hle : ∀ j, j < 5 → acc I cnt j i + cnt i * ct (I[i]'hp) j ≤ 4000000000000000000 := fun j hj => by
        rw [← hacc]
        exact Nat.le_trans (acc_mono I cnt j hp) (HM.out j hj)
      have hnum := numsR_len (bt (I[i]'hp))
      have hget := fun q h h' => numsR_get (bt (I[i]'hp)) q h h'
      have cn := fun W => numbersOf_any (bt (I[i]'hp)) W sw
      have hbg : ∀ q (hq : q < (I[i]'hp).length) (hq' : q < (bt (I[i]'hp)).size), (bt (I[i]'hp))[q]'hq' = (I[i]'hp)[q]'hq := fun q hq hq' => rfl
      have hbz : (bt (I[i]'hp)).size = (I[i]'hp).length := rfl
      generalize hL : I[i]'hp = L at *
      generalize bt L = z at *
      generalize numsR z = N at *
      have CN := Lib.hid cn
      have HLz := Lib.hid hlz
      have HACC := Lib.hid hacc
      have HLE := Lib.hid hle
      have HGET := Lib.hid hget
      have HBG := Lib.hid hbg
      have hN1 : N.length ≤ L.length := by omega
      have hN2 : L.length ≤ N.length := by omega
      have hz2 : z.size ≤ L.length := by omega
      have hz3 : L.length ≤ z.size := by omega
      have hic : i < cap := by omega
      have hi5 : i < 5 := by omega
      clear sw sf hlz hge hacc hle hget cn hbg hL hnum hbz
      go_wp2_with fail
      refine (CN.out _).mono ?_
      rintro e w2 ⟨vn, rfl, on, b2⟩
      obtain ⟨an, cn2, hvn⟩ := own_value5 on
      subst hvn
      replace a1 := a1.later b2
      replace a2 := a2.later b2
      replace a3 := a3.later b2
      have hB2 := hB.then b2
      have hs2 := b2.size
      have hNL : N.length ≤ 12 := by omega
      have ON := Lib.hid on
      have AA1 := Lib.hid a1
      have AA2 := Lib.hid a2
      have AA3 := Lib.hid a3
      clear on b2 a1 a2 a3
      obtain ⟨wo, rfl⟩ : ∃ wo : World, wo = wr := ⟨_, rfl⟩
      go_wp2_with fail
      go_loopw [21] (fun t wr => ∃ q : Nat, q ≤ N.length ∧ t = .int .i64 (q : Int) ∧ Arr5 wr (w.heap.size + 1) cnt ∧ Arr5 wr (w.heap.size + 1 + 1) (fun _ => 0) ∧ Arr5 wr (w.heap.size + 1 + 1 + 1) (fun j => acc I cnt j i + cnt i * ct (L.take q) j) ∧ Below w.heap.size w wr ∧ OwnI wr wo.heap.size (.slice an N.length cn2) N ∧ w2.heap.size ≤ wr.heap.size) (fun t _ => N.length - (intOf t).toNat)
      case atStart => exact ⟨0, Nat.zero_le _, rfl, AA1.out, AA2.out, by simpa [ct_nil] using AA3.out, hB2, ON.out, Nat.le_refl _⟩
      case round =>
        obtain ⟨q, hq, rfl, a1, a2, a3, hBq, on, hsq⟩ := hrel
        by_cases hqn : q < N.length
        · have hqL : q < L.length := by omega
          have hqz : q < z.size := by omega
          obtain ⟨gN, capN, hvN, _, _, hcN, _, cellN, _⟩ := on.row (by omega)
          injection hvN with e1 _ e3
          subst e1
          subst e3
          have kn := cellN q hqn
          rw [HGET.out q hqn hqz, HBG.out q hqL hqz] at kn
          obtain ⟨n1, hn1, en1, _, en2⟩ := letter_img HLz.out q hqL
          have hn5 : n1 < 5 := by omega
          rw [show ((L[q]'hqL).toNat : Int) - 97 = (n1 : Int) by omega] at kn
          have ka := a3.cell n1 hn5
          have kv := a1.cell i hi5
          have kf := a3.frozen n1
          have hct : ct (L.take (q + 1)) n1 = ct (L.take q) n1 + 1 := by
            rw [List.take_succ_eq_append_getElem hqL, ct_snoc, if_pos en2.symm]
          have hmono : ct (L.take (q + 1)) n1 ≤ ct L n1 := by
            have := ct_app (L.take (q + 1)) (L.drop (q + 1)) n1
            rw [List.take_append_drop] at this
            omega
          have hbd : acc I cnt n1 i + cnt i * ct (L.take q) n1 + cnt i ≤ 4000000000000000000 := by
            have h1 := HLE.out n1 hn5
            have h2 : cnt i * ct (L.take (q + 1)) n1 ≤ cnt i * ct L n1 := Nat.mul_le_mul_left _ hmono
            rw [hct, Nat.mul_add, Nat.mul_one] at h2
            omega
          have h3 := a3.set n1 hn5 (acc I cnt n1 i + cnt i * ct (L.take q) n1 + cnt i)
          have H3 : Hid (Arr5 (wr.setCell ⟨w.heap.size + 1 + 1 + 1, n1, none⟩ (.int .i64 ((acc I cnt n1 i + cnt i * ct (L.take q) n1 + cnt i : Nat) : Int))) (w.heap.size + 1 + 1 + 1) (fun j => acc I cnt j i + cnt i * ct (L.take (q + 1)) j)) := Lib.hid (h3.congr fun j hj => by
            by_cases e : j = n1
            · subst e
              rw [if_pos rfl, hct, Nat.mul_add, Nat.mul_one]
              omega
            · rw [if_neg e, List.take_succ_eq_append_getElem hqL, ct_snoc, if_neg (fun e2 => e (letr_inj hj hn5 (e2.symm.trans en2.symm))), Nat.add_zero])
          have HA1 := Lib.hid (a1.other (b' := w.heap.size + 1 + 1 + 1) (j := n1) (by omega) (.int .i64 ((acc I cnt n1 i + cnt i * ct (L.take q) n1 + cnt i : Nat) : Int)))
          have HA2 := Lib.hid (a2.other (b' := w.heap.size + 1 + 1 + 1) (j := n1) (by omega) (.int .i64 ((acc I cnt n1 i + cnt i * ct (L.take q) n1 + cnt i : Nat) : Int)))
          have hgw : w.heap.size + 1 + 1 + 1 ≠ gN := by
            have := (ON.out.lt gN rfl).1
            omega
          have HON : Hid (OwnI (wr.setCell ⟨w.heap.size + 1 + 1 + 1, n1, none⟩ (.int .i64 ((acc I cnt n1 i + cnt i * ct (L.take q) n1 + cnt i : Nat) : Int))) wo.heap.size (.slice (some ⟨gN, 0, none⟩) N.length cn2) N) := Lib.hid (own_setFar on hgw)
          have hBs := (hBq.drew).setCell (p := ⟨w.heap.size + 1 + 1 + 1, n1, none⟩) (by show _ ≤ w.heap.size + 1 + 1 + 1; omega) (.int .i64 ((acc I cnt n1 i + cnt i * ct (L.take q) n1 + cnt i : Nat) : Int))
          have HBs := Lib.hid hBs
          have hcast : ((acc I cnt n1 i + cnt i * ct (L.take q) n1 : Nat) : Int) + (cnt i : Int) = ((acc I cnt n1 i + cnt i * ct (L.take q) n1 + cnt i : Nat) : Int) := by omega
          generalize hX : acc I cnt n1 i + cnt i * ct (L.take q) n1 = X at *
          generalize hY : cnt i = Y at *
          have hwq : IntKind.i64.wrap ((X : Int) + (Y : Int)) = ((X + Y : Nat) : Int) := by rw [IntWalk.i64_in _ (by omega)]; exact hcast
          have hn0 : (0 : Int) ≤ (n1 : Int) := by omega
          have hn5i : (n1 : Int) < 5 := by omega
          have hi0 : (0 : Int) ≤ (i : Int) := by omega
          have hi5i : (i : Int) < 5 := by omega
          have hqc : q < cn2 := by omega
          clear hct hmono hbd h3 hBs hX hY hcast en1 en2 cellN on a1 a2 a3 hBq
          go_wp2_with fail
          go_still_tail 8, hmo
          go_wp2_with fail
          go_roundw
          case rel => exact ⟨q + 1, by omega, by go_num, HA1.out, HA2.out, H3.out, HBs.out, HON.out, by simpa using hsq⟩
          case measure => simp [intOf]; omega
        · have hqe : q = L.length := by omega
          have HT : Hid (Arr5 wr (w.heap.size + 1 + 1 + 1) (fun j => acc I cnt j (i + 1))) := Lib.hid (a3.congr fun j hj => by rw [HACC.out j, hqe, List.take_of_length_le (Nat.le_refl _)])
          have HA1 := Lib.hid a1
          have HA2 := Lib.hid a2
          have HBq := Lib.hid hBq
          clear hqe a1 a2 a3 on hBq
          go_wp2_with fail
          go_roundw
          case rel => exact ⟨i + 1, by omega, by go_num, HA1.out, HA2.out, HT.out, HBq.out, by omega⟩
          case measure => simp [intOf]; omega
    · have hie : i = I.length := by omega
      subst hie
      have k0 := a3.cell 0 (by omega)
      have k1 := a3.cell 1 (by omega)
      have k2 := a3.cell 2 (by omega)
      have k3 := a3.cell 3 (by omega)
      have k4 := a3.cell 4 (by omega)
      have r0 := a2.cell 0 (by omega)
      have r1 := a2.cell 1 (by omega)
      have r2 := a2.cell 2 (by omega)
      have r3 := a2.cell 3 (by omega)
      have r4 := a2.cell 4 (by omega)
      have f0 := a2.frozen 0
      have f1 := a2.frozen 1
      have f2 := a2.frozen 2
      have f3 := a2.frozen 3
      have f4 := a2.frozen 4
      generalize h0 : acc I cnt 0 I.length = x0 at *
      generalize h1 : acc I cnt 1 I.length = x1 at *
      generalize h2 : acc I cnt 2 I.length = x2 at *
      generalize h3 : acc I cnt 3 I.length = x3 at *
      generalize h4 : acc I cnt 4 I.length = x4 at *
      have S5 := ((((a2.set 0 (by omega) x0).set 1 (by omega) x1).set 2 (by omega) x2).set 3 (by omega) x3).set 4 (by omega) x4
      have S := Lib.hid S5
      have hBB := ((((hB.setCell (p := ⟨w.heap.size + 1 + 1, 0, none⟩) (by show _ ≤ w.heap.size + 1 + 1; omega) (.int .i64 (x0 : Int))).setCell (p := ⟨w.heap.size + 1 + 1, 1, none⟩) (by show _ ≤ w.heap.size + 1 + 1; omega) (.int .i64 (x1 : Int))).setCell (p := ⟨w.heap.size + 1 + 1, 2, none⟩) (by show _ ≤ w.heap.size + 1 + 1; omega) (.int .i64 (x2 : Int))).setCell (p := ⟨w.heap.size + 1 + 1, 3, none⟩) (by show _ ≤ w.heap.size + 1 + 1; omega) (.int .i64 (x3 : Int))).setCell (p := ⟨w.heap.size + 1 + 1, 4, none⟩) (by show _ ≤ w.heap.size + 1 + 1; omega) (.int .i64 (x4 : Int))
      have HB := Lib.hid hBB
      have E0 := Lib.hid h0
      have E1 := Lib.hid h1
      have E2 := Lib.hid h2
      have E3 := Lib.hid h3
      have E4 := Lib.hid h4
      clear a1 a2 a3 hB S5 hBB h0 h1 h2 h3 h4
      go_wp2_with fail
      refine bodyPost_ret (v := .agg #[.int .i64 (x0 : Int), .int .i64 (x1 : Int), .int .i64 (x2 : Int), .int .i64 (x3 : Int), .int .i64 (x4 : Int)]) ?_ rfl ⟨?_, HB.out⟩
      · have c0 := S.out.cell 0 (by omega)
        have c1 := S.out.cell 1 (by omega)
        have c2 := S.out.cell 2 (by omega)
        have c3 := S.out.cell 3 (by omega)
        have c4 := S.out.cell 4 (by omega)
        simp at c0 c1 c2 c3 c4
        simp [results, Try.results112, go_sem, c0, c1, c2, c3, c4]
      · show _ = Ending.returned (.agg #[.int .i64 ((acc I cnt 0 I.length : Nat) : Int), .int .i64 ((acc I cnt 1 I.length : Nat) : Int), .int .i64 ((acc I cnt 2 I.length : Nat) : Int), .int .i64 ((acc I cnt 3 I.length : Nat) : Int), .int .i64 ((acc I cnt 4 I.length : Nat) : Int)])
        rw [E0.out, E1.out, E2.out, E3.out, E4.out]
end Go.Proofs.Ytolboinemechpab

/-! ### Lens -/
namespace Go.Proofs.Ytolboinemechpab
set_option linter.unusedVariables false
set_option linter.unusedSimpArgs false
open Go.RowKit

set_option maxRecDepth 100000 in
set_option maxHeartbeats 2000000 in
theorem lettersOf_any (B : Nat) (v : Value) (I : List (List UInt8)) (w : World) (h : OwnS w B v (I.map bt)) (g : Mor I) :
    Calls Try.prog 138 #[.agg #[v]] w fun e w' => e = .returned (vecV (lenF I I.length)) ∧ Below w.heap.size w w' := by
  have h1 := g.len1
  have h5 := g.len5
  obtain ⟨p, cap, rfl, hg, hc, cell⟩ := h.rowM (by omega)
  obtain ⟨W1, hW1⟩ : ∃ W1 : World, W1 = ((w.alloc (.cells #[.slice (some ⟨p, 0, none⟩) I.length cap] 53)).alloc (.cells #[.int .i64 0, .int .i64 0, .int .i64 0, .int .i64 0, .int .i64 0] 80)).alloc (.cells #[.int .i64 0, .int .i64 0, .int .i64 0, .int .i64 0, .int .i64 0] 80) := ⟨_, rfl⟩
  have a2 : Arr5 W1 (w.heap.size + 1) (fun _ => 0) := by
    have := Arr5.new (w.alloc (.cells #[.slice (some ⟨p, 0, none⟩) I.length cap] 53)) (fun _ => 0)
    rw [World.size_alloc] at this
    rw [hW1]
    exact this.later (Below.new _ _)
  have a3 : Arr5 W1 (w.heap.size + 1 + 1) (fun _ => 0) := by
    have := Arr5.new ((w.alloc (.cells #[.slice (some ⟨p, 0, none⟩) I.length cap] 53)).alloc (.cells #[.int .i64 0, .int .i64 0, .int .i64 0, .int .i64 0, .int .i64 0] 80)) (fun _ => 0)
    simp only [World.size_alloc] at this
    rw [hW1]
    exact this
  have B1 : Below w.heap.size w W1 := by rw [hW1]; exact ((Below.new _ _).alloc (by simp) _).alloc (by simp; omega) _
  have C := Lib.hid cell
  have G := Lib.hid g
  have HW1 := Lib.hid hW1
  have A2 := Lib.hid a2
  have A3 := Lib.hid (a3.congr (g := lenF I 0) (fun j _ => by unfold lenF; rw [if_neg (by omega)]))
  clear h cell g a2 a3 hW1
  go_enter Try.func138, Try.ntmps138
  go_wp2_with fail
  rw [← HW1.out]
  go_loopw [9] (fun t wr => ∃ i : Nat, i ≤ I.length ∧ t = .int .i64 (i : Int) ∧ Arr5 wr (w.heap.size + 1) (fun _ => 0) ∧ Arr5 wr (w.heap.size + 1 + 1) (lenF I i) ∧ Below w.heap.size w wr) (fun t _ => I.length - (intOf t).toNat)
  case atStart => exact ⟨0, Nat.zero_le _, rfl, A2.out, A3.out, B1⟩
  case round =>
    obtain ⟨i, hi, rfl, a2, a3, hB⟩ := hrel
    by_cases hp : i < I.length
    · have kc : wr.cell? ⟨p, i, none⟩ = some (.string (bt (I[i]'hp))) := by rw [(bcell hB).1 p i hg]; exact C.out i hp
      have s12 : (bt (I[i]'hp)).size ≤ 12 := (G.out.im i hp).1
      have hil : (bt (I[i]'hp)).size = il I i := (il_get hp).symm
      have hi5 : i < 5 := by omega
      have k3 := a3.cell i hi5
      have f3 := a3.frozen i
      have hS := (a3.set i hi5 (il I i)).congr (g := lenF I (i + 1)) (fun j _ => by
        unfold lenF
        by_cases e : j = i
        · subst e; rw [if_pos rfl, if_pos (by omega)]
        · rw [if_neg e]
          by_cases e2 : j < i
          · rw [if_pos e2, if_pos (by omega)]
          · rw [if_neg e2, if_neg (by omega)])
      rw [← hil] at hS
      have HO := Lib.hid (a2.other (b' := w.heap.size + 1 + 1) (j := i) (by omega) (.int .i64 ((bt (I[i]'hp)).size : Int)))
      have HB := Lib.hid (hB.setCell (p := ⟨w.heap.size + 1 + 1, i, none⟩) (by show _ ≤ w.heap.size + 1 + 1; omega) (.int .i64 ((bt (I[i]'hp)).size : Int)))
      have HS := Lib.hid hS
      clear hS hil a2 a3
      generalize bt (I[i]'hp) = z at *
      generalize lenF I i i = y at k3
      have hic : i < cap := by omega
      have hi0 : (0 : Int) ≤ (i : Int) := by omega
      have hi5i : (i : Int) < 5 := by omega
      go_wp2_with fail
      go_roundw
      case rel => exact ⟨i + 1, by omega, by go_num, HO.out, HS.out, HB.out⟩
      case measure => simp [intOf]; omega
    · have hie : i = I.length := by omega
      subst hie
      have k0 := a3.cell 0 (by omega)
      have k1 := a3.cell 1 (by omega)
      have k2 := a3.cell 2 (by omega)
      have k3 := a3.cell 3 (by omega)
      have k4 := a3.cell 4 (by omega)
      have r0 := a2.cell 0 (by omega)
      have r1 := a2.cell 1 (by omega)
      have r2 := a2.cell 2 (by omega)
      have r3 := a2.cell 3 (by omega)
      have r4 := a2.cell 4 (by omega)
      have f0 := a2.frozen 0
      have f1 := a2.frozen 1
      have f2 := a2.frozen 2
      have f3 := a2.frozen 3
      have f4 := a2.frozen 4
      generalize h0 : lenF I I.length 0 = x0 at *
      generalize h1 : lenF I I.length 1 = x1 at *
      generalize h2 : lenF I I.length 2 = x2 at *
      generalize h3 : lenF I I.length 3 = x3 at *
      generalize h4 : lenF I I.length 4 = x4 at *
      have S5 := ((((a2.set 0 (by omega) x0).set 1 (by omega) x1).set 2 (by omega) x2).set 3 (by omega) x3).set 4 (by omega) x4
      have S := Lib.hid S5
      have hBB := ((((hB.setCell (p := ⟨w.heap.size + 1, 0, none⟩) (by show _ ≤ w.heap.size + 1; omega) (.int .i64 (x0 : Int))).setCell (p := ⟨w.heap.size + 1, 1, none⟩) (by show _ ≤ w.heap.size + 1; omega) (.int .i64 (x1 : Int))).setCell (p := ⟨w.heap.size + 1, 2, none⟩) (by show _ ≤ w.heap.size + 1; omega) (.int .i64 (x2 : Int))).setCell (p := ⟨w.heap.size + 1, 3, none⟩) (by show _ ≤ w.heap.size + 1; omega) (.int .i64 (x3 : Int))).setCell (p := ⟨w.heap.size + 1, 4, none⟩) (by show _ ≤ w.heap.size + 1; omega) (.int .i64 (x4 : Int))
      have HB := Lib.hid hBB
      have E0 := Lib.hid h0
      have E1 := Lib.hid h1
      have E2 := Lib.hid h2
      have E3 := Lib.hid h3
      have E4 := Lib.hid h4
      clear a2 a3 hB S5 hBB h0 h1 h2 h3 h4
      go_wp2_with fail
      refine bodyPost_ret (v := .agg #[.int .i64 (x0 : Int), .int .i64 (x1 : Int), .int .i64 (x2 : Int), .int .i64 (x3 : Int), .int .i64 (x4 : Int)]) ?_ rfl ⟨?_, HB.out⟩
      · have c0 := S.out.cell 0 (by omega)
        have c1 := S.out.cell 1 (by omega)
        have c2 := S.out.cell 2 (by omega)
        have c3 := S.out.cell 3 (by omega)
        have c4 := S.out.cell 4 (by omega)
        simp at c0 c1 c2 c3 c4
        simp [results, Try.results138, go_sem, c0, c1, c2, c3, c4]
      · show _ = Ending.returned (.agg #[.int .i64 ((lenF I I.length 0 : Nat) : Int), .int .i64 ((lenF I I.length 1 : Nat) : Int), .int .i64 ((lenF I I.length 2 : Nat) : Int), .int .i64 ((lenF I I.length 3 : Nat) : Int), .int .i64 ((lenF I I.length 4 : Nat) : Int)])
        rw [E0.out, E1.out, E2.out, E3.out, E4.out]

/-! ### Uniform morphisms. -/
def BI (R : Bool × Int) (w : World) (e : Ending) (w' : World) : Prop := e = .returned (.tuple #[.bool R.1, .int .i64 R.2]) ∧ Below w.heap.size w w'
end Go.Proofs.Ytolboinemechpab

/-! ### TestI -/
namespace Go.Proofs.Ytolboinemechpab
set_option linter.unusedVariables false
set_option linter.unusedSimpArgs false
open Go.RowKit

theorem slice5 (b m : Nat) (hm : m ≤ 5) (W : World) : (Instr.sliceAt 80 (.pointer (some ⟨b, 0, none⟩)) none (some (.int .i64 (m : Int))) none).run Try.prog W = .ok (.slice (some ⟨b, 0, none⟩) m 5) W := by
  obtain ⟨i0, hi, _, hs, _⟩ := info_parts infoI64
  have ha : Try.prog.arrayLen 80 = 5 := by kernel_rfl
  have he : Try.prog.elem 80 = 2 := by kernel_rfl
  rw [run_sliceAt_array_h W 80 ⟨b, 0, none⟩ (by rw [ha, he]; exact Try.underlying80) .i64 (m : Int) (by omega) (by rw [ha]; omega), he, run_sizeOf W hi, ha, show Try.prog.cellsOf 2 = 1 by kernel_rfl]
  simp [slicedAt, Addr.add]

set_option maxRecDepth 100000 in
set_option maxHeartbeats 1000000 in
theorem impl_TestLength (B : Nat) (v : Value) (I : List (List UInt8)) (w : World) (h : OwnS w B v (I.map bt)) (t : Tot I) :
    Calls Try.prog 102 #[.agg #[v]] w fun e w' => e = .returned (.tuple #[.int .i64 (tlR I).1, .int .i64 (tlR I).2]) ∧ Below w.heap.size w w' := by
  obtain ⟨p, c, hv⟩ := ownS_value h
  rw [List.length_map] at hv
  subst hv
  have hI := t.1
  have BN : Below w.heap.size w (w.alloc (.cells #[.slice p I.length c] 53)) := Below.new _ _
  have QN : Boxed (w.alloc (.cells #[.slice p I.length c] 53)) w.heap.size 53 (.slice p I.length c) := Boxed.new _ _ _
  have HBN := Lib.hid BN
  have HQN := Lib.hid QN
  have H := Lib.hid (h.below BN)
  clear BN QN h
  by_cases g : Mor I
  · have h1 := g.len1
    have h5 := g.len5
    have c1 := fun W h => isMor_yes B (.slice p I.length c) I W h g
    have c2 := fun W h => lettersOf_any B (.slice p I.length c) I W h g
    have hF : ∀ j, j < I.length → lenF I I.length j = il I j := fun j hj => by unfold lenF; rw [if_pos hj]
    generalize lenF I I.length = F at *
    have HMIN := Lib.hid (min_lens g F hF)
    have HMAX := Lib.hid (max_lens g F hF)
    have ha12 := mnL_le g (I.length - 1)
    have hb12 := mxL_le g (I.length - 1)
    have hab := mn_mx I (I.length - 1)
    have HT1 := Lib.hid (tlR_none g)
    have HT2 := Lib.hid (tlR_ok g)
    obtain ⟨R, hR⟩ : ∃ R, tlR I = R := ⟨_, rfl⟩
    rw [hR]
    have HR := Lib.hid hR
    have C1 := Lib.hid c1
    have C2 := Lib.hid c2
    generalize mnL I (I.length - 1) = a at *
    generalize mxL I (I.length - 1) = b at *
    clear hR
    by_cases h0 : a = 0
    · have HV := Lib.hid (HR.out.symm.trans (HT1.out h0))
      subst h0
      clear c1 c2 g hF
      go_enter Try.func102, Try.ntmps102
      go_wp2_with fail
      refine (C1.out _ H.out).mono ?_
      rintro e w1 ⟨rfl, b1⟩
      have q1 := boxed_later HQN.out b1
      have kq := q1.cell
      have B1 := HBN.out.then b1
      go_wp2_with fail
      refine (C2.out _ (H.out.below b1)).mono ?_
      rintro e w2 ⟨rfl, b2⟩
      have q2 := boxed_later q1 b2
      have B2 := B1.then b2
      obtain ⟨W3, hW3⟩ : ∃ W3 : World, W3 = w2.alloc (.cells #[.int .i64 (F 0 : Int), .int .i64 (F 1 : Int), .int .i64 (F 2 : Int), .int .i64 (F 3 : Int), .int .i64 (F 4 : Int)] 80) := ⟨_, rfl⟩
      have a3 : Arr5 W3 w2.heap.size F := by rw [hW3]; exact Arr5.new _ _
      have B3 : Below w.heap.size w W3 := by rw [hW3]; exact B2.alloc B2.size _
      have hc3 : ∀ j, j < (L5 F).length → W3.cell? ⟨w2.heap.size, 0 + j, none⟩ = some (.int .i64 ((L5 F).getD j 0)) := fun j hj => by
        have h5 : j < 5 := hj
        rw [Nat.zero_add, a3.cell j h5]
        rcases (show j = 0 ∨ j = 1 ∨ j = 2 ∨ j = 3 ∨ j = 4 by omega) with rfl | rfl | rfl | rfl | rfl <;> rfl
      have cmin := Try.slices_Min_int w2.heap.size 0 I.length 5 (L5 F) W3 (by omega) h5 (by omega) hc3
      have cmax := Try.slices_Max_int w2.heap.size 0 I.length 5 (L5 F) W3 (by omega) h5 (by omega) hc3
      rw [HMIN.out] at cmin
      rw [HMAX.out] at cmax
      have CMIN := Lib.hid cmin
      have CMAX := Lib.hid cmax
      have HW3 := Lib.hid hW3
      have kq3 : W3.cell? ⟨w.heap.size, 0, none⟩ = some (.slice p I.length c) := by rw [hW3]; exact (q2.alloc _).cell
      have kq2 := q2.cell
      have hlt := q2.lt
      have hne1 : ¬ w.heap.size = w2.heap.size := by omega
      have hsl := fun W => slice5 w2.heap.size I.length h5 W
      clear hW3 q1 q2 b1 b2 B1 B2 a3 hc3 cmin cmax kq
      go_wp2_with fail
      rw [← HW3.out]
      refine CMIN.out.mono ?_
      rintro e w4 ⟨rfl, rfl⟩
      go_wp2_with fail
      refine CMAX.out.mono ?_
      rintro e w5 ⟨rfl, rfl⟩
      go_wp2_with fail
      go_ret2
      exact ⟨by rw [HV.out]; rfl, B3⟩
    · have HV := Lib.hid (HR.out.symm.trans (HT2.out h0))
      by_cases h4 : 4 ≤ a + b
      · have HE := Lib.hid (tlN_impl h0 hab h4)
        have ha1 : 0 < a := by omega
        have hn0 : 0 ≤ (b : Int) - 3 + (a : Int) - 1 := by omega
        have hq0 : 0 ≤ ((b : Int) - 3 + (a : Int) - 1) / (a : Int) := Int.ediv_nonneg hn0 (by omega)
        have hq : ((b : Int) - 3 + (a : Int) - 1) / (a : Int) ≤ 20 := by
          refine Int.ediv_le_of_le_mul (by omega) ?_
          have : (1 : Int) * 20 ≤ (a : Int) * 20 := Int.mul_le_mul_of_nonneg_right (by omega) (by omega)
          omega
        have ha0 : ¬ (a : Int) = 0 := by omega
        clear h0 HT1 HT2 HR
        clear c1 c2 g hF
        go_enter Try.func102, Try.ntmps102
        go_wp2_with fail
        refine (C1.out _ H.out).mono ?_
        rintro e w1 ⟨rfl, b1⟩
        have q1 := boxed_later HQN.out b1
        have kq := q1.cell
        have B1 := HBN.out.then b1
        go_wp2_with fail
        refine (C2.out _ (H.out.below b1)).mono ?_
        rintro e w2 ⟨rfl, b2⟩
        have q2 := boxed_later q1 b2
        have B2 := B1.then b2
        obtain ⟨W3, hW3⟩ : ∃ W3 : World, W3 = w2.alloc (.cells #[.int .i64 (F 0 : Int), .int .i64 (F 1 : Int), .int .i64 (F 2 : Int), .int .i64 (F 3 : Int), .int .i64 (F 4 : Int)] 80) := ⟨_, rfl⟩
        have a3 : Arr5 W3 w2.heap.size F := by rw [hW3]; exact Arr5.new _ _
        have B3 : Below w.heap.size w W3 := by rw [hW3]; exact B2.alloc B2.size _
        have hc3 : ∀ j, j < (L5 F).length → W3.cell? ⟨w2.heap.size, 0 + j, none⟩ = some (.int .i64 ((L5 F).getD j 0)) := fun j hj => by
          have h5 : j < 5 := hj
          rw [Nat.zero_add, a3.cell j h5]
          rcases (show j = 0 ∨ j = 1 ∨ j = 2 ∨ j = 3 ∨ j = 4 by omega) with rfl | rfl | rfl | rfl | rfl <;> rfl
        have cmin := Try.slices_Min_int w2.heap.size 0 I.length 5 (L5 F) W3 (by omega) h5 (by omega) hc3
        have cmax := Try.slices_Max_int w2.heap.size 0 I.length 5 (L5 F) W3 (by omega) h5 (by omega) hc3
        rw [HMIN.out] at cmin
        rw [HMAX.out] at cmax
        have CMIN := Lib.hid cmin
        have CMAX := Lib.hid cmax
        have HW3 := Lib.hid hW3
        have kq3 : W3.cell? ⟨w.heap.size, 0, none⟩ = some (.slice p I.length c) := by rw [hW3]; exact (q2.alloc _).cell
        have kq2 := q2.cell
        have hlt := q2.lt
        have hne1 : ¬ w.heap.size = w2.heap.size := by omega
        have hsl := fun W => slice5 w2.heap.size I.length h5 W
        clear hW3 q1 q2 b1 b2 B1 B2 a3 hc3 cmin cmax kq
        go_wp2_with fail
        rw [← HW3.out]
        refine CMIN.out.mono ?_
        rintro e w4 ⟨rfl, rfl⟩
        go_wp2_with fail
        refine CMAX.out.mono ?_
        rintro e w5 ⟨rfl, rfl⟩
        go_wp2_with fail
        go_ret2
        exact ⟨by rw [HV.out]; show _ = Ending.returned (.tuple #[.int .i64 ((tlN a b : Nat) : Int), .int .i64 0]); rw [HE.out]; rfl, B3⟩
      · obtain ⟨e3, rfl, hb⟩ := tlN_small h0 hab h4
        have HV2 : Hid (R = (3, 0)) := Lib.hid (by rw [HV.out, e3]; rfl)
        clear h0 HT1 HT2 HR e3 HV h4
        rcases hb with rfl | rfl
        all_goals
          clear c1 c2 g hF
          go_enter Try.func102, Try.ntmps102
          go_wp2_with fail
          refine (C1.out _ H.out).mono ?_
          rintro e w1 ⟨rfl, b1⟩
          have q1 := boxed_later HQN.out b1
          have kq := q1.cell
          have B1 := HBN.out.then b1
          go_wp2_with fail
          refine (C2.out _ (H.out.below b1)).mono ?_
          rintro e w2 ⟨rfl, b2⟩
          have q2 := boxed_later q1 b2
          have B2 := B1.then b2
          obtain ⟨W3, hW3⟩ : ∃ W3 : World, W3 = w2.alloc (.cells #[.int .i64 (F 0 : Int), .int .i64 (F 1 : Int), .int .i64 (F 2 : Int), .int .i64 (F 3 : Int), .int .i64 (F 4 : Int)] 80) := ⟨_, rfl⟩
          have a3 : Arr5 W3 w2.heap.size F := by rw [hW3]; exact Arr5.new _ _
          have B3 : Below w.heap.size w W3 := by rw [hW3]; exact B2.alloc B2.size _
          have hc3 : ∀ j, j < (L5 F).length → W3.cell? ⟨w2.heap.size, 0 + j, none⟩ = some (.int .i64 ((L5 F).getD j 0)) := fun j hj => by
            have h5 : j < 5 := hj
            rw [Nat.zero_add, a3.cell j h5]
            rcases (show j = 0 ∨ j = 1 ∨ j = 2 ∨ j = 3 ∨ j = 4 by omega) with rfl | rfl | rfl | rfl | rfl <;> rfl
          have cmin := Try.slices_Min_int w2.heap.size 0 I.length 5 (L5 F) W3 (by omega) h5 (by omega) hc3
          have cmax := Try.slices_Max_int w2.heap.size 0 I.length 5 (L5 F) W3 (by omega) h5 (by omega) hc3
          rw [HMIN.out] at cmin
          rw [HMAX.out] at cmax
          have CMIN := Lib.hid cmin
          have CMAX := Lib.hid cmax
          have HW3 := Lib.hid hW3
          have kq3 : W3.cell? ⟨w.heap.size, 0, none⟩ = some (.slice p I.length c) := by rw [hW3]; exact (q2.alloc _).cell
          have kq2 := q2.cell
          have hlt := q2.lt
          have hne1 : ¬ w.heap.size = w2.heap.size := by omega
          have hsl := fun W => slice5 w2.heap.size I.length h5 W
          clear hW3 q1 q2 b1 b2 B1 B2 a3 hc3 cmin cmax kq
          go_wp2_with fail
          rw [← HW3.out]
          refine CMIN.out.mono ?_
          rintro e w4 ⟨rfl, rfl⟩
          go_wp2_with fail
          refine CMAX.out.mono ?_
          rintro e w5 ⟨rfl, rfl⟩
          go_wp2_with fail
          go_ret2
          exact ⟨by rw [HV2.out]; rfl, B3⟩
  · rw [tlR_bad g]
    have c1 := fun W h => isMor_no B (.slice p I.length c) I W h t g
    have C1 := Lib.hid c1
    clear c1 g
    go_enter Try.func102, Try.ntmps102
    go_wp2_with fail
    refine (C1.out _ H.out).mono ?_
    rintro e w1 ⟨rfl, b1⟩
    have B1 := HBN.out.then b1
    go_wp2_with fail
    go_ret2
    exact ⟨rfl, B1⟩
end Go.Proofs.Ytolboinemechpab

/-! ### ScopeTwo -/
namespace Go.Proofs.Ytolboinemechpab
set_option linter.unusedVariables false
set_option linter.unusedSimpArgs false
open Go.RowKit

/-- As Q; by a goto to a label: J of that label. -/
def jumpsP (J : Nat → Act → World → Prop) (Q : Exit → Act → World → Prop) : Exit → Act → World → Prop
  | .goto l, a, w => J l a w
  | e, a, w => Q e a w

section
variable {P : Program} {Q : Exit → Act → World → Prop} {a : Act} {w : World}

theorem wp_scope_jumpsP {c : Code} (J : Nat → Act → World → Prop) (μ : Nat → Act → World → Nat)
    (first : c.wp P (jumpsP J Q) a w)
    (pass : ∀ l a w, J l a w → ∃ rest, findLabel c l = some rest ∧ rest.wp P (jumpsP (fun l' a' w' => J l' a' w' ∧ μ l' a' w' < μ l a w) Q) a w) : (Code.scope c).wp P Q a w := by
  intro b k cs
  have key : ∀ n l a w, μ l a w = n → J l a w → ∃ rest, findLabel c l = some rest ∧ ∃ e a' w', Q e a' w' ∧ Arrives P (lone (b.at a (.code rest :: .inScope c :: k)) cs w) b k cs e a' w' := by
    intro n
    induction n using Nat.strongRecOn with
    | _ n ih =>
      intro l a w hn hJ
      obtain ⟨rest, hf, hp⟩ := pass l a w hJ
      refine ⟨rest, hf, ?_⟩
      obtain ⟨e, a₁, w₁, hq, harr⟩ := hp b (.inScope c :: k) cs
      cases e with
      | normal => exact ⟨.normal, a₁, w₁, hq, Steps.trans harr (.one step_inScope)⟩
      | exit id => exact ⟨.exit id, a₁, w₁, hq, fun k' hk => harr k' (by simp [exitTo, hk])⟩
      | goto l' =>
        obtain ⟨hJ', hlt⟩ := hq
        obtain ⟨rest', hf', e₂, a₂, w₂, hq₂, harr₂⟩ := ih _ (by omega) l' a₁ w₁ rfl hJ'
        have hg : gotoIn l' (.inScope c :: k) = some (.code rest' :: .inScope c :: k) := by simp [gotoIn, hf']
        exact ⟨e₂, a₂, w₂, hq₂, .of_steps (harr _ hg) harr₂⟩
      | ret => exact ⟨_, a₁, w₁, hq, harr⟩
      | panic ch => exact ⟨_, a₁, w₁, hq, harr⟩
      | outgrown => exact ⟨_, a₁, w₁, hq, harr⟩
  obtain ⟨e, a₁, w₁, hq, harr⟩ := first b (.inScope c :: k) cs
  cases e with
  | normal => exact ⟨.normal, a₁, w₁, hq, .head step_scope (Steps.trans harr (.one step_inScope))⟩
  | exit id => exact ⟨.exit id, a₁, w₁, hq, fun k' hk => .head step_scope (harr k' (by simp [exitTo, hk]))⟩
  | goto l' =>
    obtain ⟨rest', hf', e₂, a₂, w₂, hq₂, harr₂⟩ := key _ l' a₁ w₁ rfl hq
    have hg : gotoIn l' (.inScope c :: k) = some (.code rest' :: .inScope c :: k) := by simp [gotoIn, hf']
    exact ⟨e₂, a₂, w₂, hq₂, .of_steps (.head step_scope (harr _ hg)) harr₂⟩
  | ret => exact ⟨_, a₁, w₁, hq, .of_steps (.one step_scope) harr⟩
  | panic ch => exact ⟨_, a₁, w₁, hq, .of_steps (.one step_scope) harr⟩
  | outgrown => exact ⟨_, a₁, w₁, hq, .of_steps (.one step_scope) harr⟩

theorem wp_scope_ghostP {c : Code} (J : Nat → Nat → Act → World → Prop)
    (first : c.wp P (jumpsP (fun l a w => ∃ m, J l m a w) Q) a w)
    (pass : ∀ l m a w, J l m a w → ∃ rest, findLabel c l = some rest ∧ rest.wp P (jumpsP (fun l' a' w' => ∃ m', m' < m ∧ J l' m' a' w') Q) a w) : (Code.scope c).wp P Q a w := by
  refine wp_scope_jumpsP (fun l a w => ∃ m, J l m a w) (fun l a w => leastOf (fun m => J l m a w)) first fun l a w hJ => ?_
  obtain ⟨rest, hf, hp⟩ := pass l _ a w (leastOf_spec hJ).1
  refine ⟨rest, hf, Code.wp_mono (fun e a' w' q => ?_) hp⟩
  cases e with
  | goto l' =>
    obtain ⟨m', hlt, hJ'⟩ := q
    exact ⟨⟨m', hJ'⟩, Nat.lt_of_le_of_lt ((leastOf_spec ⟨m', hJ'⟩).2 m' hJ') hlt⟩
  | normal => exact q
  | exit id => exact q
  | ret => exact q
  | panic ch => exact q
  | outgrown => exact q

theorem noGoto_jumps {J : Nat → Act → World → Prop} {e : Exit} {a : Act} {w : World} (h : Exit.noGoto Q e a w) : jumpsP J Q e a w := by
  cases e with
  | goto l => exact h.elim
  | normal => exact h
  | exit id => exact h
  | ret => exact h
  | panic ch => exact h
  | outgrown => exact h

/-- Three pieces ahead of the first label, two ahead of the second one. -/
theorem wp_scope_two {r1 r2 r3 x1 x2 y : Code} {l0 l1 : Nat} (J0 J1 : Nat → Act → World → Prop)
    (hf0 : findLabel (r1.seq (r2.seq (r3.seq ((Code.label l0).seq (x1.seq (x2.seq ((Code.label l1).seq y))))))) l0 = some (Code.skip.seq (x1.seq (x2.seq ((Code.label l1).seq y)))))
    (hf1 : findLabel (r1.seq (r2.seq (r3.seq ((Code.label l0).seq (x1.seq (x2.seq ((Code.label l1).seq y))))))) l1 = some (Code.skip.seq y))
    (start : r1.wp P (Exit.then (fun a w => r2.wp P (Exit.then (fun a w => r3.wp P (Exit.then (fun a w => ∃ m, J0 m a w) (Exit.noGoto Q)) a w) (Exit.noGoto Q)) a w) (Exit.noGoto Q)) a w)
    (look : ∀ m a w, J0 m a w → x1.wp P (Exit.then (fun a w => x2.wp P (Exit.then (fun a w => ∃ m', m' < m ∧ J1 m' a w) (Exit.noGoto Q)) a w) (Exit.noGoto Q)) a w)
    (tail : ∀ m a w, J1 m a w → y.wp P (jumpsP (fun l a w => ∃ m', m' < m ∧ ((l = l0 ∧ J0 m' a w) ∨ (l = l1 ∧ J1 m' a w))) Q) a w) :
    (Code.scope (r1.seq (r2.seq (r3.seq ((Code.label l0).seq (x1.seq (x2.seq ((Code.label l1).seq y)))))))).wp P Q a w := by
  have piece : ∀ {x : Code} {K K' : Act → World → Prop} {J : Nat → Act → World → Prop} {a : Act} {w : World}, x.wp P (Exit.then K (Exit.noGoto Q)) a w → (∀ a w, K a w → K' a w) → x.wp P (Exit.then K' (jumpsP J Q)) a w := by
    intro x K K' J a w h hk
    refine Code.wp_mono (fun e a w q => ?_) h
    cases e with
    | normal => exact hk _ _ q
    | goto l => exact q.elim
    | exit id => exact q
    | ret => exact q
    | panic ch => exact q
    | outgrown => exact q
  have weak : ∀ {x : Code} {m m0 : Nat} {a : Act} {w : World}, m0 ≤ m → x.wp P (jumpsP (fun l a w => ∃ m', m' < m0 ∧ ((l = l0 ∧ J0 m' a w) ∨ (l = l1 ∧ J1 m' a w))) Q) a w → x.wp P (jumpsP (fun l a w => ∃ m', m' < m ∧ ((l = l0 ∧ J0 m' a w) ∨ (l = l1 ∧ J1 m' a w))) Q) a w := by
    intro x m m0 a w hm h
    refine Code.wp_mono (fun e a w q => ?_) h
    cases e with
    | goto l => obtain ⟨m2, h2, h⟩ := q; exact ⟨m2, by omega, h⟩
    | normal => exact q
    | exit id => exact q
    | ret => exact q
    | panic ch => exact q
    | outgrown => exact q
  have L : ∀ m a w, J0 m a w → (x1.seq (x2.seq ((Code.label l1).seq y))).wp P (jumpsP (fun l a w => ∃ m', m' < m ∧ ((l = l0 ∧ J0 m' a w) ∨ (l = l1 ∧ J1 m' a w))) Q) a w := by
    intro m a w hJ
    refine wp_seq (piece (look m a w hJ) fun a w q => ?_)
    refine wp_seq (piece q fun a w q => ?_)
    obtain ⟨m', hlt, hJ'⟩ := q
    exact wp_seq (wp_label (weak (by omega) (tail m' a w hJ')))
  refine wp_scope_ghostP (fun l m a w => (l = l0 ∧ J0 m a w) ∨ (l = l1 ∧ J1 m a w)) ?_ ?_
  · refine wp_seq (piece start fun a w q => ?_)
    refine wp_seq (piece q fun a w q => ?_)
    refine wp_seq (piece q fun a w q => ?_)
    obtain ⟨m, hJ⟩ := q
    refine wp_seq (wp_label (Code.wp_mono (fun e a w q => ?_) (L m a w hJ)))
    cases e with
    | goto l => obtain ⟨m', _, h⟩ := q; exact ⟨m', h⟩
    | normal => exact q
    | exit id => exact q
    | ret => exact q
    | panic ch => exact q
    | outgrown => exact q
  · rintro l m a w (⟨rfl, hJ⟩ | ⟨rfl, hJ⟩)
    · exact ⟨_, hf0, wp_seq (wp_skip (L m a w hJ))⟩
    · exact ⟨_, hf1, wp_seq (wp_skip (tail m a w hJ))⟩
end
end Go.Proofs.Ytolboinemechpab

/-! ### ImgI -/
namespace Go.Proofs.Ytolboinemechpab
set_option linter.unusedVariables false
set_option linter.unusedSimpArgs false
open Go.RowKit Go.Lib

/-- A text appended to a row of bytes that the call owns, at a step of a region that draws. -/
theorem step_append_string {P : Program} {ops : Array Oper} {o : Oper} {a : Act} {K : Act → World → Prop} {Q : Exit → Act → World → Prop} {E : Prop} (w : World) (hgd : o.guard = none) (sl x : Operand) (t u : TypeId)
    (ho : o.op = .call { callee := .builtin .append, args := #[sl, x], argTypes := #[t, u] })
    (base : Nat) (e : TypeId) (i : TypeInfo) (ht : P.underlying t = some (.slice e)) (hu : P.underlying u = some .string) (hi : P.info? e = some i) (hz : i.zero = some (.int .u8 0))
    (hsize : i.size = 1) (hby : i.bytes = 1)
    (v : Value) (n : Nat) (xs : List Value) (hs : a.eval sl = v) (hown : w.ownsRow base e 1 v n xs) (s : ByteArray) (hx : a.eval x = .string s)
    (h63 : n + s.size ≤ maxLen) (hbytes : n + s.size ≤ 140737488355328) (hbase : base ≤ w.heap.size)
    (h : ∀ p c w', w'.ownsRow base e 1 (.slice p (n + s.size) c) (n + s.size) (xs ++ strCells s) → w.grownBy w' v.ownBlock → K (a.put o.dst (.slice p (n + s.size) c)) w') :
    if Region.wanted o (yielded ops a.tmps) = true then Oper.wp P o a w K Q else E := by
  have hw : Region.wanted o (yielded ops a.tmps) = true := by simp [Region.wanted, hgd]
  rw [if_pos hw]
  obtain ⟨v', w', hr, h2, h3, h4⟩ := run_append_own_string (P := P) w base t u o.type e i ht hu hi hz hsize hby v n xs hown s h63 hbytes hbase
  unfold Oper.wp execOp
  simp only [ho, resolve, invoke, builtin, Sem.run_bind, Sem.run_pure, Result.andThen_ok, List.map_toArray, List.map_cons, List.map_nil, hs, hx, hr]
  rcases own_forms h2 with ⟨rfl, h0, _⟩ | ⟨g, cap, rfl, _⟩
  · have := h none 0 w'
    rw [h0] at this
    rw [h0] at h2
    exact this h2 h3
  · exact h _ cap w' h2 h3

theorem own_sliceV {w : World} {B : Nat} {e : TypeId} {v : Value} {n : Nat} {xs : List Value} (h : w.ownsRow B e 1 v n xs) : ∃ a c, v = .slice a n c := by
  rcases own_forms h with ⟨rfl, h0, _⟩ | ⟨g, cap, rfl, _⟩
  · exact ⟨none, 0, by rw [h0]⟩
  · exact ⟨_, cap, rfl⟩
theorem strCells_bytes (s : ByteArray) : strCells s = byteCells (lts s) := rfl

theorem jumpsP_ret {J : Nat → Act → World → Prop} {Q : Exit → Act → World → Prop} {a : Act} {w : World} : jumpsP J Q .ret a w = Q .ret a w := rfl

def itT : Option (List UInt8) → ByteArray
  | none => ⟨#[]⟩
  | some l => bt l
/-- How the machine stands at its first label. -/
def AtTake (b : Nat) (W1 : World) (V : Value) (x : ByteArray) (I : List (List UInt8)) (R : Option (List UInt8)) (m : Nat) (a : Act) (wr : World) : Prop :=
  ∃ (u9 u10 u11 u12 u13 u14 u15 u16 u17 u18 u19 u20 u21 u22 u23 u24 u25 u26 u27 u28 u29 u30 u31 u32 u33 u34 u35 u36 u37 u38 : Value) (k : Nat) (l : List UInt8) (y : ByteArray), a = { tmps := #[.agg #[V], .string x, .int .i64 (k : Int), .pointer (some ⟨b, 0, none⟩), undef, undef, .string ⟨#[]⟩, .bool false, .string y, u9, u10, u11, u12, u13, u14, u15, u16, u17, u18, u19, u20, u21, u22, u23, u24, u25, u26, u27, u28, u29, u30, u31, u32, u33, u34, u35, u36, u37, u38], defers := [] } ∧
    k ≤ 100 ∧ m = k * 100 + 99 ∧ Hid (y = bt l) ∧ Hid (lets I l) ∧ l.length ≤ 60 ∧ Hid (itr I k l = R) ∧ Below W1.heap.size W1 wr
/-- How it stands at the second one. -/
def AtLetter (b : Nat) (W1 : World) (V : Value) (x : ByteArray) (I : List (List UInt8)) (R : Option (List UInt8)) (m : Nat) (a : Act) (wr : World) : Prop :=
  ∃ (u11 u12 u13 u14 u15 u16 u17 u18 u19 u20 u21 u22 u23 u24 u25 u26 u27 u28 u29 u30 u31 u32 u33 u34 u35 u36 u37 u38 : Value) (k : Nat) (l : List UInt8) (y : ByteArray) (p : Option Addr) (n c j : Nat), a = { tmps := #[.agg #[V], .string x, .int .i64 ((k : Int) + 1), .pointer (some ⟨b, 0, none⟩), undef, undef, .string ⟨#[]⟩, .bool false, .string y, .slice p n c, .int .i64 (j : Int), u11, u12, u13, u14, u15, u16, u17, u18, u19, u20, u21, u22, u23, u24, u25, u26, u27, u28, u29, u30, u31, u32, u33, u34, u35, u36, u37, u38], defers := [] } ∧
    k + 1 ≤ 100 ∧ j ≤ l.length ∧ m = (k + 1) * 100 + (60 - j) ∧ Hid (y = bt l) ∧ Hid (lets I l) ∧ l.length ≤ 60 ∧ Hid (itr I (k + 1) l = R) ∧ n ≤ 60 ∧ Hid (n = (imgOf I (l.take j)).length) ∧
    wr.ownsRow W1.heap.size 5 1 (.slice p n c) n (byteCells (imgOf I (l.take j))) ∧ Below W1.heap.size W1 wr

set_option maxRecDepth 100000 in
set_option maxHeartbeats 2000000 in
theorem iterateOf_any (B : Nat) (v : Value) (I : List (List UInt8)) (l0 : List UInt8) (x : ByteArray) (k0 : Nat) (w : World) (h : OwnS w B v (I.map bt)) (g : Mor I) (hx : x = bt l0) (hl : lets I l0) (h60 : l0.length ≤ 60) (hk : k0 ≤ 100) :
    Calls Try.prog 104 #[.agg #[v], .string x, .int .i64 (k0 : Int)] w fun e w' => e = .returned (.tuple #[.string (itT (itr I k0 l0)), .bool (itr I k0 l0).isSome]) ∧ Below w.heap.size w w' := by
  obtain ⟨i0, hi, hz0, hz1, hz2⟩ := info_parts infoU8
  have hmo : Try.prog.follows .mixedOrders = true := by kernel_rfl
  have h1 := g.len1
  have h5 := g.len5
  obtain ⟨p, cap, rfl, hg, hc, cell⟩ := h.rowM (by omega)
  obtain ⟨R, hR⟩ : ∃ R, itr I k0 l0 = R := ⟨_, rfl⟩
  rw [hR]
  have HR0 := Lib.hid hR
  obtain ⟨W1, hW1⟩ : ∃ W1 : World, W1 = w.alloc (.cells #[.slice (some ⟨p, 0, none⟩) I.length cap] 53) := ⟨_, rfl⟩
  have qh : Boxed W1 w.heap.size 53 (.slice (some ⟨p, 0, none⟩) I.length cap) := by rw [hW1]; exact Boxed.new _ _ _
  have B1 : Below w.heap.size w W1 := by rw [hW1]; exact Below.new _ _
  have HW1 := Lib.hid hW1
  have QH := Lib.hid qh
  have C := Lib.hid cell
  have G := Lib.hid g
  have HL0 := Lib.hid hl
  have HX0 := Lib.hid hx
  clear h cell g hl hx hR hW1 qh
  go_enter Try.func104, Try.ntmps104
  go_wp2
  refine wp_scope_two (l0 := 0) (l1 := 1) (AtTake w.heap.size W1 (.slice (some ⟨p, 0, none⟩) I.length cap) x I R) (AtLetter w.heap.size W1 (.slice (some ⟨p, 0, none⟩) I.length cap) x I R) ?f0 ?f1 ?start ?look ?tail
  case f0 => rfl
  case f1 => rfl
  case start =>
    go_wp2
    rw [← HW1.out]
    exact ⟨_, _, _, _, _, _, _, _, _, _, _, _, _, _, _, _, _, _, _, _, _, _, _, _, _, _, _, _, _, _, _, k0, l0, x, rfl, hk, rfl, HX0, HL0, h60, HR0, Below.refl _ _⟩
  case look =>
    rintro m a wr ⟨u9, u10, u11, u12, u13, u14, u15, u16, u17, u18, u19, u20, u21, u22, u23, u24, u25, u26, u27, u28, u29, u30, u31, u32, u33, u34, u35, u36, u37, u38, k, l, y, rfl, hk, hm, HY, HLL, hl60, HI, hB⟩
    have HM := Lib.hid hm
    clear hm
    have hys : y.size ≤ 60 := by rw [HY.out]; exact hl60
    by_cases hk0 : k = 0
    · subst hk0
      have HV : Hid (R = some l) := Lib.hid (by rw [← HI.out]; rfl)
      go_wp2_with (go_at_call 84; refine (strings_Clone y _ (by omega)).mono ?_; rintro e w2 ⟨rfl, b2⟩)
      try rw [Exit.noGoto_ret]
      go_ret2
      exact ⟨by rw [HV.out]; show _ = Ending.returned (.tuple #[.string (bt l), .bool true]); rw [← HY.out]; rfl, (B1.then hB).then b2⟩
    · obtain ⟨k, rfl⟩ : ∃ q, k = q + 1 := ⟨k - 1, by omega⟩
      have hk1 : ¬ ((k : Int) + 1 = 0) := by omega
      have hcast : ((k + 1 : Nat) : Int) = (k : Int) + 1 := by omega
      rw [hcast]
      clear hcast hk0
      go_wp2
      exact ⟨(k + 1) * 100 + 60, by have := HM.out; omega, _, _, _, _, _, _, _, _, _, _, _, _, _, _, _, _, _, _, _, _, _, _, _, _, _, _, _, _, k, l, y, none, 0, 0, 0, rfl, hk, Nat.zero_le _, by omega, HY, HLL, hl60, HI, by omega, Lib.hid rfl, World.ownsRow_nil _ _ _ _, hB⟩
  case tail =>
    rintro m a wr ⟨u11, u12, u13, u14, u15, u16, u17, u18, u19, u20, u21, u22, u23, u24, u25, u26, u27, u28, u29, u30, u31, u32, u33, u34, u35, u36, u37, u38, k, l, y, pp, n, c, j, rfl, hk, hj, hm, HY, HLL, hl60, HI, hn60, HN, hown, hB⟩
    have HM := Lib.hid hm
    have BW := B1.then hB
    have kr := (boxed_later QH.out hB).cell
    have hys : y.size = l.length := by rw [HY.out]; rfl
    have HYS := Lib.hid hys
    have hyl1 : y.size ≤ l.length := by omega
    have hyl2 : l.length ≤ y.size := by omega
    clear hm hys
    by_cases hp : j < l.length
    · have hjy : j < y.size := by omega
      obtain ⟨n1, hn1, e1, e2, _⟩ := letter_img HLL.out j hp
      have hyg : y[j]'hjy = l[j]'hp := by have := HY.out; subst this; rfl
      rw [← hyg] at e1
      have kc : wr.cell? ⟨p, n1, none⟩ = some (.string (bt (I[n1]'hn1))) := by rw [(bcell BW).1 p n1 hg]; exact C.out n1 hn1
      have hz12 : (bt (I[n1]'hn1)).size ≤ 12 := (G.out.im n1 hn1).1
      have hap : byteCells (imgOf I (l.take j)) ++ strCells (bt (I[n1]'hn1)) = byteCells (imgOf I (l.take (j + 1))) := by
        rw [strCells_bytes, lt_bt, imgOf_take I l j hp, e2, byteCells_append]
      have hln : n + (bt (I[n1]'hn1)).size = (imgOf I (l.take (j + 1))).length := by rw [HN.out, imgOf_take I l j hp, e2, List.length_append]; rfl
      have HAP := Lib.hid hap
      have HLN := Lib.hid hln
      have hmore := imgOf_take_len I l (j + 1)
      have HMO := Lib.hid hmore
      have hpw : p < W1.heap.size := Nat.lt_of_lt_of_le hg B1.size
      have hbl : w.heap.size < W1.heap.size := (QH.out).lt
      have hbz := hB.size
      have hnew : ∀ k, (Value.slice pp n c).ownBlock = some k → W1.heap.size ≤ k := fun k hk => (hown.lt k hk).1
      have hne1 : (Value.slice pp n c).ownBlock ≠ some p := fun e => by have := hnew p e; omega
      have hne2 : (Value.slice pp n c).ownBlock ≠ some w.heap.size := fun e => by have := hnew _ e; omega
      generalize bt (I[n1]'hn1) = z at kc hz12 HAP HLN
      have hnc : n1 < cap := by omega
      have hjl : (j : Int) < (y.size : Int) := by omega
      have hni : (n1 : Int) < (I.length : Int) := by omega
      have hn0 : (0 : Int) ≤ (n1 : Int) := by omega
      have wq1 : IntKind.u8.wrap (n1 : Int) = (n1 : Int) := IntWalk.u8_in _ (by omega)
      have HOWN := Lib.hid hown
      have HNE1 := Lib.hid hne1
      have HNE2 := Lib.hid hne2
      clear e2 hap hln hmore hyg hown hne1 hne2 hnew
      go_wp2_with fail
      go_region_held3 (fun w' => w'.cell? ⟨w.heap.size, 0, none⟩ = some (.slice (some ⟨p, 0, none⟩) I.length cap) ∧ w'.cell? ⟨p, n1, none⟩ = some (.string z))
        (first | go_keep | (refine ⟨?_, ?_⟩ <;> (first | (rw [hgrow.cell_far _ (by simp; omega) (Ne.symm HNE2.out)]; assumption) | (rw [hgrow.cell_far _ (by simp; omega) (Ne.symm HNE1.out)]; assumption))))
        ((refine step_append_string _ (by rfl) _ _ _ _ (by rfl) W1.heap.size 5 i0 Try.underlying25 Try.underlying9 hi hz0 hz1 hz2 (.slice pp n c) n (byteCells (imgOf I (l.take j))) (by rfl) (HOWN.out.drew) z (by rfl) (by unfold maxLen; omega) (by omega) (by simp; omega) ?_; intro pp2 cc2 w3 hown' hgrow))
      have hB3 : Below W1.heap.size W1 w3 := (hB.drew).grown hgrow (by simp; omega) (fun q hq => (HOWN.out.lt q hq).1)
      have HO := Lib.hid hown'
      have HB3 := Lib.hid hB3
      clear hown' hgrow hB3
      by_cases h60 : 60 < n + z.size
      · have HV : Hid (R = none) := Lib.hid (by rw [← HI.out, itr_long (by have := HLN.out; have := HMO.out; omega)])
        have h60i : (60 : Int) < (n : Int) + (z.size : Int) := by omega
        go_wp2_with fail
        try rw [jumpsP_ret]
        go_ret2
        exact ⟨by rw [HV.out]; rfl, B1.then HB3.out⟩
      · have h60i : ¬ (60 : Int) < (n : Int) + (z.size : Int) := by omega
        go_wp2_with fail
        refine wp_goto ?_
        have hj1 : ((j : Int) + 1) = ((j + 1 : Nat) : Int) := by omega
        rw [hj1]
        exact ⟨(k + 1) * 100 + (60 - (j + 1)), by have := HM.out; omega, .inr ⟨rfl, _, _, _, _, _, _, _, _, _, _, _, _, _, _, _, _, _, _, _, _, _, _, _, _, _, _, _, _, k, l, y, pp2, n + z.size, cc2, j + 1, rfl, hk, hp, rfl, HY, HLL, hl60, HI, by omega, HLN, by have h := HO.out; rw [HAP.out] at h; exact h, HB3.out⟩⟩
    · have hjl : ¬ (j : Int) < (y.size : Int) := by omega
      have hje : j = l.length := by omega
      have hfull : imgOf I (l.take j) = imgOf I l := by rw [hje, List.take_of_length_le (Nat.le_refl _)]
      have HF := Lib.hid hfull
      have hcv := text_of_own (w := wr) (B := W1.heap.size) (v := .slice pp n c) (l := imgOf I (l.take j)) (by rw [← HN.out]; exact hown)
      rw [hfull] at hcv
      have hHL := imgOf_lets G.out HLL.out
      have hnl : (imgOf I l).length ≤ 60 := by have := HN.out; rw [HF.out] at this; omega
      have HI2 := Lib.hid ((itr_step (k := k) (by omega : ¬ 60 < (imgOf I l).length)).symm.trans HI.out)
      have HH := Lib.hid hHL
      obtain ⟨z, hz⟩ : ∃ z : ByteArray, z = bt (imgOf I l) := ⟨_, rfl⟩
      have HZ := Lib.hid hz
      have hcv2 : (convert 25 9 (.slice pp n c)).run Try.prog wr = .ok (.string z) wr := by rw [hz]; exact hcv
      have hk1 : (k : Int) + 1 - 1 = (k : Int) := by omega
      clear hje hfull hcv hHL hz
      go_wp2_with fail
      refine wp_goto ?_
      exact ⟨k * 100 + 99, by have := HM.out; omega, .inl ⟨rfl, _, _, _, _, _, _, _, _, _, _, _, _, _, _, _, _, _, _, _, _, _, _, _, _, _, _, _, _, _, _, k, imgOf I l, z, rfl, by omega, rfl, HZ, HH, hnl, HI2, hB⟩⟩

theorem iterR_all {I : List (List UInt8)} {x : ByteArray} {k : Nat} (h : Mor I ∧ IsW x) (hf : Few I.length x) (hk : k ≤ 100) : iterR I x (k : Int) = if (itr I k (lts x)).isSome = true then (itT (itr I k (lts x)), 0) else (⟨#[]⟩, 3) := by
  cases e : itr I k (lts x) with
  | none => rw [iterR_none h hf hk e]; rfl
  | some l => rw [iterR_some h hf hk e]; rfl
theorem itT_size {I : List (List UInt8)} : ∀ (k : Nat) (l : List UInt8), l.length ≤ 60 → (itT (itr I k l)).size ≤ 60
  | 0, l, h => h
  | k + 1, l, h => by
    by_cases e : 60 < (imgOf I l).length
    · rw [itr_long e]; show 0 ≤ 60; omega
    · rw [itr_step e]; exact itT_size k _ (by omega)

end Go.Proofs.Ytolboinemechpab

/-! ### MakI -/
namespace Go.Proofs.Ytolboinemechpab
set_option linter.unusedVariables false
set_option linter.unusedSimpArgs false
open Go.RowKit Go.Shelf
attribute [local go_sem] Oper.semAt_some

theorem boxesM {w w1 : World} {v : Value} (b : Below (((w.alloc (.cells #[v] 53)).alloc (.cells #[.string ⟨#[]⟩] 9)).alloc (.cells #[.int .i64 0] 2)).heap.size (((w.alloc (.cells #[v] 53)).alloc (.cells #[.string ⟨#[]⟩] 9)).alloc (.cells #[.int .i64 0] 2)) w1) :
    Boxed w1 w.heap.size 53 v ∧ Boxed w1 (w.heap.size + 1) 9 (.string ⟨#[]⟩) ∧ Boxed w1 (w.heap.size + 1 + 1) 2 (.int .i64 0) ∧ Below w.heap.size w w1 ∧ w.heap.size + 3 ≤ w1.heap.size := by
  have hs : (((w.alloc (.cells #[v] 53)).alloc (.cells #[.string ⟨#[]⟩] 9)).alloc (.cells #[.int .i64 0] 2)).heap.size = w.heap.size + 3 := by simp
  have p1 : Boxed (((w.alloc (.cells #[v] 53)).alloc (.cells #[.string ⟨#[]⟩] 9)).alloc (.cells #[.int .i64 0] 2)) (w.heap.size + 1) 9 (.string ⟨#[]⟩) := by
    have := Boxed.new (w.alloc (.cells #[v] 53)) 9 (.string ⟨#[]⟩)
    rw [World.size_alloc] at this
    exact this.alloc _
  have p2 : Boxed (((w.alloc (.cells #[v] 53)).alloc (.cells #[.string ⟨#[]⟩] 9)).alloc (.cells #[.int .i64 0] 2)) (w.heap.size + 1 + 1) 2 (.int .i64 0) := by
    have := Boxed.new ((w.alloc (.cells #[v] 53)).alloc (.cells #[.string ⟨#[]⟩] 9)) 2 (.int .i64 0)
    simp only [World.size_alloc] at this
    exact this
  exact ⟨(b.block _ (by omega)).trans (((Boxed.new w _ _).alloc _).alloc _), (b.block _ (by omega)).trans p1, (b.block _ (by omega)).trans p2, (((Below.new _ _).alloc (by simp) _).alloc (by simp; omega) _).trans (b.mono (by omega)), by have := b.size; omega⟩

/-- How the search stands at the head of a round. -/
def MkAt (V : Value) (I : List (List UInt8)) (N : Nat) (F : Option (List UInt8)) (w : World) (gk : Nat) (a : Act) (W : World) : Prop :=
  ∃ (u7 u8 u9 u10 u11 u12 u13 u14 u15 u16 u17 u18 u19 u20 u21 u22 u23 u24 u25 u26 u27 u28 u29 u30 u31 u32 u33 u34 u35 u36 u37 u38 u39 u40 : Value) (n : Nat) (z : Int) (Ds : List Nat), a = { tmps := #[.agg #[V], .pointer (some ⟨w.heap.size, 0, none⟩), .pointer (some ⟨w.heap.size + 1, 0, none⟩), .pointer (some ⟨w.heap.size + 1 + 1, 0, none⟩), .int .i64 (N : Int), .int .i64 0, .int .i64 z, u7, u8, u9, u10, u11, u12, u13, u14, u15, u16, u17, u18, u19, u20, u21, u22, u23, u24, u25, u26, u27, u28, u29, u30, u31, u32, u33, u34, u35, u36, u37, u38, u39, u40], defers := Ds.map mkD } ∧ z = (n : Int) ∧ n + gk = N + 1 ∧ 1 ≤ n ∧
    Boxed W w.heap.size 53 V ∧ Boxed W (w.heap.size + 1) 9 (.string ⟨#[]⟩) ∧ Boxed W (w.heap.size + 1 + 1) 2 (.int .i64 0) ∧ w.heap.size + 3 ≤ W.heap.size ∧ Below w.heap.size w W ∧ MarksAt W w.heap.size Ds ∧ Hid (fmN I I.length gk n = F)

theorem mk_step (w : World) (R : ByteArray) (c : Int) : ∀ (D : Nat) (W : World), w.heap.size ≤ D → (Boxed W (w.heap.size + 1) 9 (.string R) ∧ Boxed W (w.heap.size + 1 + 1) 2 (.int .i64 c) ∧ Below w.heap.size w W) → W.heap[D]? = some (.deferred (some [])) →
    (Boxed (W.putObj D (.deferred none)) (w.heap.size + 1) 9 (.string R) ∧ Boxed (W.putObj D (.deferred none)) (w.heap.size + 1 + 1) 2 (.int .i64 c) ∧ Below w.heap.size w (W.putObj D (.deferred none))) := fun D W hD hs hK => by
  have hne : ∀ {b : Nat} {t : TypeId} {v : Value}, Boxed W b t v → some b ≠ some D := fun hb e => by
    have e1 := Option.some.inj e
    subst e1
    rw [show W.heap[_]? = _ from hb] at hK
    cases hK
  exact ⟨hs.1.kept (grownBy_putObj' W D _) (hne hs.1), hs.2.1.kept (grownBy_putObj' W D _) (hne hs.2.1), hs.2.2.trans (belowK_b (w := w) (Nat.le_refl _) W D _ _ hD hK rfl rfl)⟩

set_option maxRecDepth 100000 in
set_option maxHeartbeats 4000000 in
theorem impl_Mak_ok (B : Nat) (v : Value) (I : List (List UInt8)) (w : World) (h : OwnS w B v (I.map bt)) (t : Tot I) (g : Mor I) (h0 : ¬ lT I = 0) (h5 : ¬ 5 < lT I) :
    CallsIn Fence.wide 4 Try.prog 44 #[.agg #[v]] w fun e w' => e = .returned (.tuple #[.string (makR I).1, .int .i64 (makR I).2]) ∧ Below w.heap.size w w' := by
  obtain ⟨p, cap, hv⟩ := ownS_value h
  rw [List.length_map] at hv
  subst hv
  have m1 := g.len1
  have m5 := g.len5
  obtain ⟨R, hR⟩ : ∃ R, makR I = R := ⟨_, rfl⟩
  rw [hR]
  have hnone := fun e => makR_none g h0 h5 e
  have hsome := fun s e => makR_some g h0 h5 (s := s) e
  rw [hR] at hnone hsome
  have ct := fun W h => impl_TestLength B (.slice p I.length cap) I W h t
  rw [tlR_ok g (fun e => h0 (by unfold lT tlN; rw [if_pos e]))] at ct
  rw [show tlN (mnL I (I.length - 1)) (mxL I (I.length - 1)) = lT I from rfl] at ct
  have ci := fun (s : List UInt8) (hl : lets I s) (h60 : s.length ≤ 5) W h => iterateOf_any B (.slice p I.length cap) I s (bt s) 1 W h g rfl hl (by omega) (by omega)
  have HLI := Lib.hid fun (n : Nat) (s : List UInt8) (hs : s ∈ dfs I.length n []) => (⟨dfs_lets m5 n [] (fun c hc => by cases hc) s hs, dfs_size I.length n [] s hs⟩ : lets I s ∧ s.length = [].length + n)
  have HIL := Lib.hid fun (s : List UInt8) (hl : lets I s) => img_len g hl
  have HN := Lib.hid hnone
  have HS := Lib.hid hsome
  have CT := Lib.hid ct
  have CI := Lib.hid ci
  have H := Lib.hid h
  obtain ⟨N, hN⟩ : ∃ N, lT I = N := ⟨_, rfl⟩
  rw [hN] at HN HS CT h0 h5
  clear h t g ct ci hnone hsome hR hN
  have i5 : ¬ (5 : Int) < (N : Int) := by omega
  refine callsIn_of_wp_marks Try.func44 rfl trivial ?_ rfl
  simp only [Try.ntmps44, List.size_toArray, List.length_cons, List.length_nil, Nat.reduceAdd, Nat.reduceSub, Array.replicate_succ, Array.replicate_zero, List.push_toArray, List.append_toArray, List.nil_append, List.cons_append]
  have BN3 : Below w.heap.size w (((w.alloc (.cells #[.slice p I.length cap] 53)).alloc (.cells #[.string ⟨#[]⟩] 9)).alloc (.cells #[.int .i64 0] 2)) := ((Below.new _ _).alloc (by simp) _).alloc (by simp; omega) _
  gi_wp2_with (refine ⟨trivial, ?_⟩; gi_at_call 102; refine (callsIn_wide.2 (CT.out _ (H.out.below BN3))).mono ?_; rintro e w1 ⟨rfl, b1⟩; obtain ⟨v0, v1, v2, hB, hz⟩ := boxesM b1)
  refine wpIn_loop_ghost_k (fun n a W => MkAt (.slice p I.length cap) I N (fmN I I.length N 1) w n a W) N ⟨_, _, _, _, _, _, _, _, _, _, _, _, _, _, _, _, _, _, _, _, _, _, _, _, _, _, _, _, _, _, _, _, _, _, 1, _, [], rfl, rfl, by omega, Nat.le_refl _, v0, v1, v2, by omega, hB, MarksAt.nil _ _, Lib.hid rfl⟩ ?_
  clear v0 v1 v2 hB hz b1 BN3
  intro gk a W hI J K hJ hK
  obtain ⟨u7, u8, u9, u10, u11, u12, u13, u14, u15, u16, u17, u18, u19, u20, u21, u22, u23, u24, u25, u26, u27, u28, u29, u30, u31, u32, u33, u34, u35, u36, u37, u38, u39, u40, n, z, Ds, rfl, rfl, hn, hn1, v0, v1, v2, hz, hB, hM, HF⟩ := hI
  have c0 := v0.cell
  have hbz := hB.size
  by_cases hp : n ≤ N
  · obtain ⟨g2, rfl⟩ : ∃ g2, gk = g2 + 1 := ⟨gk - 1, by omega⟩
    have hpi : (n : Int) ≤ (N : Int) := by omega
    gi_wp2_with (refine ⟨trivial, ?_⟩; gi_at_call 103; refine (sqfreeWords_in _ _ _ _).mono ?_; rintro e w2 ⟨rfl, rfl⟩)
    have q1 : Boxed ((W.alloc (.cells #[.int .i64 (n : Int)] 2)).alloc (.cells #[.int .i64 (I.length : Int)] 2)) W.heap.size 2 (.int .i64 (n : Int)) := (Boxed.new W _ _).alloc _
    have q2 : Boxed ((W.alloc (.cells #[.int .i64 (n : Int)] 2)).alloc (.cells #[.int .i64 (I.length : Int)] 2)) (W.heap.size + 1) 2 (.int .i64 (I.length : Int)) := by
      have := Boxed.new (W.alloc (.cells #[.int .i64 (n : Int)] 2)) 2 (.int .i64 (I.length : Int))
      rwa [World.size_alloc] at this
    have d0 := (v0.alloc (.cells #[.int .i64 (n : Int)] 2)).alloc (.cells #[.int .i64 (I.length : Int)] 2)
    have d1 := (v1.alloc (.cells #[.int .i64 (n : Int)] 2)).alloc (.cells #[.int .i64 (I.length : Int)] 2)
    have d2 := (v2.alloc (.cells #[.int .i64 (n : Int)] 2)).alloc (.cells #[.int .i64 (I.length : Int)] 2)
    have dB := (hB.alloc hbz (.cells #[.int .i64 (n : Int)] 2)).alloc (by simp; omega) (.cells #[.int .i64 (I.length : Int)] 2)
    have hs0 : ((W.alloc (.cells #[.int .i64 (n : Int)] 2)).alloc (.cells #[.int .i64 (I.length : Int)] 2)).heap.size = W.heap.size + 2 := by simp
    have dM : MarksAt ((W.alloc (.cells #[.int .i64 (n : Int)] 2)).alloc (.cells #[.int .i64 (I.length : Int)] 2)) w.heap.size Ds := hM.keep fun b o hb _ => by
      have hlt := (Array.getElem?_eq_some_iff.1 hb).1
      rw [Below.heap_alloc _ _ b (by simp; omega), Below.heap_alloc _ _ b hlt]
      exact hb
    have hMl := hM.lt
    generalize hW0 : (W.alloc (.cells #[.int .i64 (n : Int)] 2)).alloc (.cells #[.int .i64 (I.length : Int)] 2) = W0 at q1 q2 d0 d1 d2 dB hs0 dM ⊢
    have hMl0 : ∀ D ∈ Ds, D < W0.heap.size := dM.lt
    clear hW0 v0 v1 v2 hB hM c0
    refine wpIn_rangeFunc_up rfl (by decide) (gf := 141) (lb := #[.pointer (some ⟨W.heap.size, 0, none⟩), .pointer (some ⟨W.heap.size + 1, 0, none⟩)]) rfl trivial (enters_of Try.func141 (by kernel_rfl) rfl)
      (sqfree_upM 3 (by decide) W.heap.size (W.heap.size + 1) n I.length (by omega) m1 m5 W0 q1 q2) (Below.refl _ _) (by simp; omega) (fun _ => rfl)
      (fun pre W' => Hid (fmW I (pre.map Subtype.val) = none) ∧ Boxed W' w.heap.size 53 (.slice p I.length cap) ∧ Boxed W' (w.heap.size + 1) 9 (.string ⟨#[]⟩) ∧ Boxed W' (w.heap.size + 1 + 1) 2 (.int .i64 0) ∧ Below w.heap.size w W' ∧ MarksAt W' w.heap.size Ds)
      (fun c pre W' => c = .ret ∧ ∃ s : List UInt8, Hid (fmW I (pre.map Subtype.val) = some s) ∧ Boxed W' (w.heap.size + 1) 9 (.string (bt s)) ∧ Boxed W' (w.heap.size + 1 + 1) 2 (.int .i64 0) ∧ Below w.heap.size w W' ∧ MarksAt W' w.heap.size Ds)
      (fun s A B hs hb => by
        obtain ⟨h1, h2, h3, h4, h6, h8⟩ := hs
        exact ⟨h1, (hb.block _ (by omega)).trans h2, (hb.block _ (by omega)).trans h3, (hb.block _ (by omega)).trans h4, h6.trans (hb.mono (by omega)), ⟨h8.1, fun D hD => ⟨(h8.2 D hD).1, (hb.block D (hMl0 D hD)).trans (h8.2 D hD).2⟩⟩⟩)
      (fun c s A B hs hb => by
        obtain ⟨h1, s, h2, h3, h4, h6, h8⟩ := hs
        exact ⟨h1, s, h2, (hb.block _ (by omega)).trans h3, (hb.block _ (by omega)).trans h4, h6.trans (hb.mono (by omega)), ⟨h8.1, fun D hD => ⟨(h8.2 D hD).1, (hb.block D (hMl0 D hD)).trans (h8.2 D hD).2⟩⟩⟩)
      ⟨Lib.hid rfl, d0, d1, d2, dB, dM⟩
      (fun x => { tmps := #[.agg #[.slice p I.length cap], .pointer (some ⟨w.heap.size, 0, none⟩), .pointer (some ⟨w.heap.size + 1, 0, none⟩), .pointer (some ⟨w.heap.size + 1 + 1, 0, none⟩), .int .i64 (N : Int), .int .i64 0, .int .i64 (n : Int), .string ⟨x.val.toArray⟩, u8, u9, u10, u11, u12, u13, u14, u15, u16, u17, u18, u19, .int .i64 (n : Int), .int .i64 (N : Int), .bool true, u23, u24, .int .i64 (n : Int), .pointer (some ⟨w.heap.size, 0, none⟩), .slice p I.length cap, .int .i64 (I.length : Int), .func (.func 141) #[] #[.pointer (some ⟨W.heap.size, 0, none⟩), .pointer (some ⟨W.heap.size + 1, 0, none⟩)], .string ⟨x.val.toArray⟩, u31, u32, u33, u34, u35, u36, u37, u38, u39, u40], defers := [] }) ?assign ?body ?done ?stop
    case assign =>
      intro l x W' K hK
      gi_wp2
      exact hK
    case body =>
      rintro l pre x W' ⟨hF, h0', h1, h2, h7, h8⟩ hlt hsz
      have c0 := h0'.cell
      have b0 := h0'.lt
      have l1 := h1.lt
      have l2 := h2.lt
      obtain ⟨hl, hln⟩ := HLI.out n x.val x.property
      have hln2 : x.val.length = n := by rw [hln]; simp
      have hil := HIL.out x.val hl
      have hit : itr I 1 x.val = some (imgOf I x.val) := itr_one (by omega)
      have CX := CI.out x.val hl (by omega) W' (H.out.below h7)
      rw [hit] at CX
      have CX2 := Lib.hid CX
      have CQ := fun W => isSquareFree_any (bt (imgOf I x.val)) W (by rw [bt_size]; omega)
      rw [show bl (bt (imgOf I x.val)) = imgOf I x.val from lt_bt _] at CQ
      by_cases he : (fs (imgOf I x.val)).2 = 0
      · rw [decide_eq_true he] at CQ
        have HF2 : Hid (fmW I ((pre ++ [x]).map Subtype.val) = none) := Lib.hid (by
          rw [List.map_append, fmW_app_none _ hF.out]
          exact fmW_one_no (by unfold hasQ; rw [decide_eq_false_iff_not, Decidable.not_not]; exact he))
        have CQ2 := Lib.hid CQ
        clear CX CQ he hit
        gi_wp2_with (first | (refine ⟨trivial, ?_⟩; gi_at_call 104; refine (CallsIn.inRound l (callsIn_wide.2 CX2.out)).mono ?_; rintro e w2 ⟨rfl, b2⟩) | (refine ⟨trivial, ?_⟩; gi_at_call 105; refine (CallsIn.inRound l (callsIn_wide.2 (CQ2.out _))).mono ?_; rintro e w3 ⟨rfl, b3⟩))
        have B3 := b2.then b3
        exact ⟨⟨B3.size, fun b _ h2' => B3.block b h2'⟩, fun b hb => B3.block b (by simp at hb; omega), HF2, (B3.block _ b0).trans h0', (B3.block _ l1).trans h1, (B3.block _ l2).trans h2, h7.then B3, h8.old fun b hb => B3.block b hb⟩
      · rw [decide_eq_false he] at CQ
        have HF2 : Hid (fmW I ((pre ++ [x]).map Subtype.val) = some x.val) := Lib.hid (by
          rw [List.map_append, fmW_app_none _ hF.out]
          exact fmW_one_yes (by unfold hasQ; rw [decide_eq_true_eq]; exact he))
        have CQ2 := Lib.hid CQ
        clear CX CQ he hit
        gi_wp2_with (first | (refine ⟨trivial, ?_⟩; gi_at_call 104; refine (CallsIn.inRound l (callsIn_wide.2 CX2.out)).mono ?_; rintro e w2 ⟨rfl, b2⟩) | (refine ⟨trivial, ?_⟩; gi_at_call 105; refine (CallsIn.inRound l (callsIn_wide.2 (CQ2.out _))).mono ?_; rintro e w3 ⟨rfl, b3⟩; have B3 := b2.then b3; have y1 : Boxed w3 (w.heap.size + 1) 9 (.string ⟨#[]⟩) := (B3.block _ l1).trans h1; have y2 : Boxed w3 (w.heap.size + 1 + 1) 2 (.int .i64 0) := (B3.block _ l2).trans h2; have e1 := y1.cell; have e2 := y2.cell; have g1 := y1.frozen; have g2 := y2.frozen))
        obtain ⟨t1, t2, t3, t4, t5⟩ := two_set (x := .string (bt x.val)) (x' := .int .i64 0) y1 y2 (h7.then B3) (by omega)
        have hM3 := h8.old (W' := w3) fun b hb => B3.block b hb
        exact ⟨KeepUp.trans ⟨B3.size, fun b _ h2' => B3.block b h2'⟩ (t4 _ (by omega)), rfl, x.val, HF2, t1, t2, t3, ⟨hM3.1, fun D hD => ⟨(hM3.2 D hD).1, (t5 D (hM3.lt D hD) (fun e => hM3.not_box y1 (e ▸ hD)) (fun e => hM3.not_box y2 (e ▸ hD))).trans (hM3.2 D hD).2⟩⟩⟩
    case done =>
      rintro D ys W' hD hys ⟨hF, h0', h1, h2, h7, h8⟩ hKD
      have HNX : Hid (fmN I I.length g2 (n + 1) = fmN I I.length N 1) := Lib.hid (by rw [← HF.out, fmN_miss (by rw [← hys]; exact hF.out)])
      have l2 := h2.lt
      gi_wp2
      exact Handed.intro g2 (by omega) (hJ _ _ _ ⟨_, _, _, _, _, _, _, _, _, _, _, _, _, _, _, _, _, _, _, _, _, _, _, _, _, _, _, _, _, _, _, _, _, _, n + 1, _, D :: Ds, rfl, by omega, by omega, by omega, h0', h1, h2, by omega, h7, MarksAt.cons h8 (by omega) hKD (fun hm => by have := hMl0 D hm; omega), HNX⟩)
    case stop =>
      rintro D c pre W' hD ⟨hne, tt, ht⟩ ⟨rfl, s, hF, h1, h2, h7, h8⟩ hKD
      have hs : R = (bt s, 0) := HS.out s (by rw [← HF.out]; exact fmN_hit (by rw [← ht]; exact fmW_app_some _ hF.out))
      subst hs
      gi_wp2
      exact leaves_marks (fun W => Boxed W (w.heap.size + 1) 9 (.string (bt s)) ∧ Boxed W (w.heap.size + 1 + 1) 2 (.int .i64 0) ∧ Below w.heap.size w W)
        (fun W hW => ⟨_, results_boxes Try.results44 rfl rfl Try.isAgg9 Try.isAgg2 hW.1.cell hW.2.1.cell, rfl, hW.2.2⟩)
        (D :: Ds) W' w.heap.size (MarksAt.cons h8 (by omega) hKD (fun hm => by have := hMl0 D hm; omega)) (mk_step w (bt s) 0) ⟨h1, h2, h7⟩
  · obtain rfl : gk = 0 := by omega
    have hs : R = (⟨#[]⟩, 4) := HN.out (by rw [← HF.out]; rfl)
    have hpi : ¬ (n : Int) ≤ (N : Int) := by omega
    have e1 := v1.cell
    have e2 := v2.cell
    have g1 := v1.frozen
    have g2 := v2.frozen
    subst hs
    gi_wp2
    obtain ⟨t1, t2, t3, t4, t5⟩ := two_set (x := .string ⟨#[]⟩) (x' := .int .i64 4) v1 v2 hB (by omega)
    exact leaves_marks (fun W => Boxed W (w.heap.size + 1) 9 (.string ⟨#[]⟩) ∧ Boxed W (w.heap.size + 1 + 1) 2 (.int .i64 4) ∧ Below w.heap.size w W)
      (fun W hW => ⟨_, results_boxes Try.results44 rfl rfl Try.isAgg9 Try.isAgg2 hW.1.cell hW.2.1.cell, rfl, hW.2.2⟩)
      Ds _ w.heap.size ⟨hM.1, fun D hD => ⟨(hM.2 D hD).1, (t5 D (hM.lt D hD) (fun e => hM.not_box v1 (e ▸ hD)) (fun e => hM.not_box v2 (e ▸ hD))).trans (hM.2 D hD).2⟩⟩ (mk_step w ⟨#[]⟩ 4) ⟨t1, t2, t3⟩

set_option maxRecDepth 100000 in
set_option maxHeartbeats 2000000 in
theorem impl_FirstSquareMaker (B : Nat) (v : Value) (I : List (List UInt8)) (w : World) (h : OwnS w B v (I.map bt)) (t : Tot I) :
    Calls Try.prog 44 #[.agg #[v]] w fun e w' => e = .returned (.tuple #[.string (makR I).1, .int .i64 (makR I).2]) ∧ Below w.heap.size w w' := by
  obtain ⟨p, cap, hv⟩ := ownS_value h
  rw [List.length_map] at hv
  subst hv
  have BN3 : Below w.heap.size w (((w.alloc (.cells #[.slice p I.length cap] 53)).alloc (.cells #[.string ⟨#[]⟩] 9)).alloc (.cells #[.int .i64 0] 2)) := ((Below.new _ _).alloc (by simp) _).alloc (by simp; omega) _
  have ct := fun W h => impl_TestLength B (.slice p I.length cap) I W h t
  have H := Lib.hid h
  by_cases g : Mor I
  · by_cases h0 : lT I = 0
    · rw [makR_zero g h0]
      rw [tlR_none g (by
        by_cases e : mnL I (I.length - 1) = 0
        · exact e
        · exfalso
          unfold lT tlN at h0
          rw [if_neg e] at h0
          omega)] at ct
      have CT := Lib.hid ct
      clear ct h t g h0
      go_enter Try.func44, Try.ntmps44
      go_wp2_with (go_at_call 102; refine (CT.out _ (H.out.below BN3)).mono ?_; rintro e w1 ⟨rfl, b1⟩; obtain ⟨v0, v1, v2, hB, hz⟩ := boxesM b1; have e1 := v1.cell; have e2 := v2.cell; have f1 := v1.frozen; have f2 := v2.frozen)
      obtain ⟨t1, t2, t3, _, _⟩ := two_set (x := .string ⟨#[]⟩) (x' := .int .i64 5) v1 v2 hB (by omega)
      exact bodyPost_ret (results_boxes Try.results44 rfl rfl Try.isAgg9 Try.isAgg2 t1.cell t2.cell) rfl ⟨rfl, t3⟩
    · by_cases h5 : 5 < lT I
      · rw [makR_long g h0 h5]
        rw [tlR_ok g (fun e => h0 (by unfold lT tlN; rw [if_pos e]))] at ct
        rw [show tlN (mnL I (I.length - 1)) (mxL I (I.length - 1)) = lT I from rfl] at ct
        have i5 : (5 : Int) < (lT I : Int) := by omega
        have CT := Lib.hid ct
        clear ct h t g h0 h5
        generalize lT I = N at *
        go_enter Try.func44, Try.ntmps44
        go_wp2_with (go_at_call 102; refine (CT.out _ (H.out.below BN3)).mono ?_; rintro e w1 ⟨rfl, b1⟩; obtain ⟨v0, v1, v2, hB, hz⟩ := boxesM b1; have e1 := v1.cell; have e2 := v2.cell; have f1 := v1.frozen; have f2 := v2.frozen)
        obtain ⟨t1, t2, t3, _, _⟩ := two_set (x := .string ⟨#[]⟩) (x' := .int .i64 3) v1 v2 hB (by omega)
        exact bodyPost_ret (results_boxes Try.results44 rfl rfl Try.isAgg9 Try.isAgg2 t1.cell t2.cell) rfl ⟨rfl, t3⟩
      · exact callsIn_wide.1 (impl_Mak_ok B _ I w h t g h0 h5)
  · rw [makR_bad g]
    rw [tlR_bad g] at ct
    have CT := Lib.hid ct
    clear ct h t g
    go_enter Try.func44, Try.ntmps44
    go_wp2_with (go_at_call 102; refine (CT.out _ (H.out.below BN3)).mono ?_; rintro e w1 ⟨rfl, b1⟩; obtain ⟨v0, v1, v2, hB, hz⟩ := boxesM b1; have e1 := v1.cell; have e2 := v2.cell; have f1 := v1.frozen; have f2 := v2.frozen)
    obtain ⟨t1, t2, t3, _, _⟩ := two_set (x := .string ⟨#[]⟩) (x' := .int .i64 1) v1 v2 hB (by omega)
    exact bodyPost_ret (results_boxes Try.results44 rfl rfl Try.isAgg9 Try.isAgg2 t1.cell t2.cell) rfl ⟨rfl, t3⟩

end Go.Proofs.Ytolboinemechpab

/-! ### MakS -/
namespace Go.Proofs.Ytolboinemechpab
set_option linter.unusedVariables false
set_option linter.unusedSimpArgs false
open Go.RowKit

theorem slice_0mM (x : ByteArray) (m : Nat) (hm : m ≤ x.size) (W : World) :
    (Instr.slice 9 (.string x) none (some (.int .i64 (m : Int))) none).run Try.prog W = .ok (.string (x.extract 0 m)) W := by
  have := run_slice_string_h (P := Try.prog) W 9 x Try.underlying9 .i64 (m : Int) (by omega) (by omega)
  simpa using this

set_option maxRecDepth 100000 in
set_option maxHeartbeats 1000000 in
theorem l06Square_any (x : ByteArray) (w : World) (hx : x.size ≤ 61) :
    Calls Try.prog 137 #[.string x] w fun e w' => e = .returned (.bool (decide (¬ sa (bl x) x.size = 0))) ∧ Below w.heap.size w w' := by
  obtain ⟨R, hR⟩ : ∃ R, sa (bl x) x.size = R := ⟨_, rfl⟩
  rw [hR]
  have HR0 : Hid (saF (bl x) x.size 1 (x.size / 2) = R) := Lib.hid hR
  clear hR
  go_enter Try.func137, Try.ntmps137
  go_wp2
  go_loopg [3] (x.size / 2) (fun g s4 wr => ∃ q : Nat, 0 < q ∧ q + g = x.size / 2 + 1 ∧ s4 = .int .i64 (q : Int) ∧ Below w.heap.size w wr ∧ Hid (saF (bl x) x.size q g = R))
  case atStart => exact ⟨1, by omega, by omega, rfl, Below.refl _ _, HR0⟩
  case round =>
    obtain ⟨q, hq, hg, rfl, hB, HR⟩ := hrel
    clear HR0
    by_cases hp : 2 * q ≤ x.size
    · obtain ⟨g, rfl⟩ : ∃ g, gk = g + 1 := ⟨gk - 1, by omega⟩
      have hs1 := fun W => slice_two x ((x.size : Int) - 2 * (q : Int)) ((x.size : Int) - (q : Int)) (x.size - 2 * q) (x.size - q) (by omega) (by omega) (by omega) (by omega) W
      have hs2 := fun W => slice_from x ((x.size : Int) - (q : Int)) (x.size - q) (by omega) (by omega) W
      have hpt := rep_text x q x.size rfl hp
      by_cases he : repB (bl x) (x.size - 2 * q) q q = true
      · have hteq := teq_yes (hpt.2 he).symm
        have HV : Hid (R = q) := Lib.hid (by rw [← HR.out, saF_hit he])
        clear he hpt
        go_wp2
        go_quiet (fail)
        go_wp2
        go_ret
        exact ⟨ret_bool (by rw [HV.out]; symm; rw [decide_eq_true_eq]; omega), hB.drewN _⟩
      · have he2 : repB (bl x) (x.size - 2 * q) q q = false := by simpa using he
        have hteq := teq_no (fun h => he (hpt.1 h.symm))
        have HN : Hid (saF (bl x) x.size (q + 1) g = R) := Lib.hid (by rw [← HR.out, saF_miss he2])
        clear he he2 hpt
        go_wp2
        go_quiet (fail)
        go_wp2
        go_roundg g
        case measure => omega
        case rel => exact ⟨q + 1, by omega, by omega, by go_num, hB.drewN _, HN⟩
    · obtain rfl : gk = 0 := by omega
      have HV : Hid (R = 0) := Lib.hid (by rw [← HR.out]; rfl)
      go_wp2
      go_ret
      exact ⟨ret_bool (by rw [HV.out]; rfl), hB⟩

set_option maxRecDepth 100000 in
set_option maxHeartbeats 1000000 in
theorem l06Has_any (x : ByteArray) (w : World) (hx : x.size ≤ 60) :
    Calls Try.prog 136 #[.string x] w fun e w' => e = .returned (.bool (decide (¬ (fs (bl x)).2 = 0))) ∧ Below w.heap.size w w' := by
  have hf := fs_free (bl x)
  rw [bl_len] at hf
  have HF := Lib.hid hf
  clear hf
  go_enter Try.func136, Try.ntmps136
  go_wp2
  go_loopg [3] 61 (fun g s3 wr => ∃ n : Nat, 2 ≤ n ∧ n + g = 63 ∧ n ≤ 61 ∧ s3 = .int .i64 (n : Int) ∧ Below w.heap.size w wr ∧ Hid (∀ k, k < n → k ≤ x.size → sa (bl x) k = 0))
  case atStart => exact ⟨2, by omega, by omega, by omega, rfl, Below.refl _ _, Lib.hid fun k hk _ => sa_low hk⟩
  case round =>
    obtain ⟨n, h2, hg, h61, rfl, hB, HS⟩ := hrel
    by_cases hp : n ≤ x.size
    · obtain ⟨g, rfl⟩ : ∃ g, gk = g + 1 := ⟨gk - 1, by omega⟩
      have hpi : (n : Int) ≤ (x.size : Int) := by omega
      have hsl := fun W => slice_0mM x n hp W
      have hys : (x.extract 0 n).size = n := by simp; omega
      have CQ := fun W => l06Square_any (x.extract 0 n) W (by omega)
      rw [hys, show bl (x.extract 0 n) = (bl x).take n from by rw [bl_extract, List.drop_zero, Nat.sub_zero], sa_take (by rw [bl_len]; exact hp)] at CQ
      by_cases he : sa (bl x) n = 0
      · rw [decide_eq_false (not_not_intro he)] at CQ
        have HS2 : Hid (∀ k, k < n + 1 → k ≤ x.size → sa (bl x) k = 0) := Lib.hid fun k hk hkx => by
          by_cases e : k = n
          · rw [e]; exact he
          · exact HS.out k (by omega) hkx
        clear hys he
        generalize x.extract 0 n = y at *
        go_wp2_with fail
        refine (CQ _).mono ?_
        rintro e w2 ⟨rfl, b2⟩
        go_wp2_with fail
        go_roundg g
        case measure => omega
        case rel => exact ⟨n + 1, by omega, by omega, by omega, by go_num, hB.then b2, HS2⟩
      · rw [decide_eq_true he] at CQ
        have HE : Hid (¬ (fs (bl x)).2 = 0) := Lib.hid fun e => he (HF.out.1 e n hp)
        clear hys he
        generalize x.extract 0 n = y at *
        go_wp2_with fail
        refine (CQ _).mono ?_
        rintro e w2 ⟨rfl, b2⟩
        go_wp2_with fail
        go_ret
        exact ⟨ret_bool (decide_eq_true HE.out).symm, hB.then b2⟩
    · have hpi : ¬ (n : Int) ≤ (x.size : Int) := by omega
      have HE : Hid ((fs (bl x)).2 = 0) := Lib.hid (HF.out.2 fun k hk => HS.out k (by omega) hk)
      go_wp2_with fail
      go_ret
      exact ⟨ret_bool (by simp [HE.out]), hB⟩

set_option maxRecDepth 100000 in
set_option maxHeartbeats 2000000 in
theorem l06Maker_any (B : Nat) (v : Value) (I : List (List UInt8)) (m : Nat) (hm : m ≤ 5) (g : Mor I) : ∀ (f : Nat) (x : ByteArray) (w : World), OwnS w B v (I.map bt) → x.size + f = m → lets I (bl x) →
    Calls Try.prog 101 #[.agg #[v], .string x, .int .i64 (m : Int)] w fun e w' => (∃ t, e = .returned (.tuple #[.string t, .bool (fmW I (dfs I.length f (bl x))).isSome]) ∧ ∀ s, fmW I (dfs I.length f (bl x)) = some s → t = bt s) ∧ Below w.heap.size w w'
  | 0, x, w, h, hx, hl => by
    have hxm : ((x.size : Int) == (m : Int)) = true := by rw [beq_iff_eq]; omega
    have hxm2 : (x.size : Int) = (m : Int) := by omega
    have hil := img_len g hl
    rw [bl_len] at hil
    obtain ⟨p, cap, hv⟩ := ownS_value h
    rw [List.length_map] at hv
    subst hv
    have BN : Below w.heap.size w (w.alloc (.cells #[.slice p I.length cap] 53)) := Below.new _ _
    have CI := Lib.hid (l06Image_any B (.slice p I.length cap) I (bl x) x (w.alloc (.cells #[.slice p I.length cap] 53)) (h.below BN) g (bt_lt x).symm hl (by rw [bl_len]; omega))
    have CH := fun W => l06Has_any (bt (imgOf I (bl x))) W (by rw [bt_size]; omega)
    rw [show bl (bt (imgOf I (bl x))) = imgOf I (bl x) from lt_bt _] at CH
    obtain ⟨q, hq⟩ : ∃ q, hasQ I (bl x) = q := ⟨_, rfl⟩
    rw [show decide (¬ (fs (imgOf I (bl x))).2 = 0) = q from hq] at CH
    have HR : Hid ((fmW I (dfs I.length 0 (bl x))).isSome = q ∧ ∀ s, fmW I (dfs I.length 0 (bl x)) = some s → x = bt s) := Lib.hid (by
      rw [dfs]
      cases q with
      | true => rw [fmW_one_yes hq]; exact ⟨rfl, fun s e => by cases e; exact (bt_lt x).symm⟩
      | false => rw [fmW_one_no hq]; exact ⟨rfl, fun s e => by cases e⟩)
    have CH2 := Lib.hid CH
    have HBN := Lib.hid BN
    clear CH hq h hl BN hil
    go_enter Try.func101, Try.ntmps101
    go_wp2_with fail
    refine CI.out.mono ?_
    rintro e w1 ⟨rfl, b1⟩
    go_wp2_with fail
    refine (CH2.out _).mono ?_
    rintro e w2 ⟨rfl, b2⟩
    go_wp2_with fail
    go_ret2
    rw [HR.out.1]
    exact ⟨⟨x, rfl, HR.out.2⟩, (HBN.out.then b1).then b2⟩
  | f + 1, x, w, h, hx, hl => by
    have h5 := g.len5
    have h1 := g.len1
    have hxm : ((x.size : Int) == (m : Int)) = false := by rw [beq_eq_false_iff_ne]; omega
    have hxm2 : ¬ (x.size : Int) = (m : Int) := by omega
    obtain ⟨p, cap, hv⟩ := ownS_value h
    rw [List.length_map] at hv
    subst hv
    obtain ⟨R, hR⟩ : ∃ R, fmW I (dfs I.length (f + 1) (bl x)) = R := ⟨_, rfl⟩
    rw [hR]
    have BN : Below w.heap.size w (w.alloc (.cells #[.slice p I.length cap] 53)) := Below.new _ _
    have QN : Boxed (w.alloc (.cells #[.slice p I.length cap] 53)) w.heap.size 53 (.slice p I.length cap) := Boxed.new _ _ _
    have HR : Hid (fmW I (kids (dfs I.length f) (bl x) 0 I.length) = R) := Lib.hid (by rw [← hR, dfs])
    have IH := Lib.hid (l06Maker_any B (.slice p I.length cap) I m hm g f)
    have HX := Lib.hid hx
    have HL := Lib.hid hl
    have H := Lib.hid h
    have x60 : x.size ≤ 5 := by omega
    clear hR hx hl h
    go_enter Try.func101, Try.ntmps101
    go_wp2_with fail
    go_loopg [6, 7, 8] I.length (fun g s6 s7 s8 wr => ∃ c : Nat, c + g = I.length ∧ s6 = .string ⟨#[]⟩ ∧ s7 = .bool false ∧ s8 = .int .i64 (c : Int) ∧ Boxed wr w.heap.size 53 (.slice p I.length cap) ∧ Below w.heap.size w wr ∧ Hid (fmW I (kids (dfs I.length f) (bl x) c g) = R))
    case atStart => exact ⟨0, by omega, rfl, rfl, rfl, QN, BN, HR⟩
    case round =>
      clear BN QN HR
      obtain ⟨c, hg, rfl, rfl, rfl, QQ, hB, HN⟩ := hrel
      have kq := QQ.cell
      by_cases hp : c < I.length
      · obtain ⟨g2, rfl⟩ : ∃ g2, gk = g2 + 1 := ⟨gk - 1, by omega⟩
        have hpi : (c : Int) < (I.length : Int) := by omega
        have e1 := lt1_size c
        have he := encode_letter c (by omega)
        have hcv : ∀ W : World, (convert 21 9 (.int .i32 (97 + (c : Int)))).run Try.prog W = .ok (.string (lt1 c)) W := fun W => by
          rw [run_convert_int_string W _ _ _ _ (by rw [Try.underlying21]; rfl) Try.underlying9, he]
        have hsum : ∀ W, (Op.stringOp .add x (lt1 c)).run Try.prog W = .ok (.string (x ++ lt1 c)) W := fun W => run_string_add_sum W _ _ (by rw [lt1_size]; omega)
        have hsz : (x ++ lt1 c).size = x.size + 1 := by rw [ByteArray.size_append, lt1_size]
        have hbl : bl (x ++ lt1 c) = bl x ++ [letB (c : Int)] := by rw [bl_append]; rfl
        have hl2 : lets I (bl (x ++ lt1 c)) := by
          rw [hbl]
          intro y hy
          rcases List.mem_append.1 hy with hy | hy
          · exact HL.out y hy
          · rw [List.mem_singleton] at hy
            have := letB_nat (n := (c : Int)) (by omega) (by omega)
            subst hy
            omega
        have CS := fun w => l06Square_any (x ++ lt1 c) w (by omega)
        have CI := fun W h => IH.out (x ++ lt1 c) W h (by have := HX.out; omega) hl2
        rw [hbl] at CS CI
        rw [hsz] at CS
        rw [← bl_len x] at CS
        have y60 : (x ++ lt1 c).size ≤ 6 := by omega
        by_cases hs : sa (bl x ++ [letB (c : Int)]) ((bl x).length + 1) = 0
        · rw [decide_eq_false (not_not_intro hs)] at CS
          cases hfm : fmW I (dfs I.length f (bl x ++ [letB (c : Int)])) with
          | none =>
            have HN2 : Hid (fmW I (kids (dfs I.length f) (bl x) (c + 1) g2) = R) := Lib.hid (by rw [← HN.out, fm_on hs hfm])
            rw [hfm] at CI
            have CS2 := Lib.hid CS
            have CI2 := Lib.hid CI
            clear CS CI hs hfm hl2 hbl hsz he
            generalize x ++ lt1 c = y at *
            generalize lt1 c = t at *
            go_wp2_with fail
            refine (CS2.out _).mono ?_
            rintro e w4 ⟨rfl, b4⟩
            have Q4 := boxed_later QQ b4
            have k4 := Q4.cell
            have B4 := hB.then b4
            clear kq
            go_wp2_with fail
            refine (CI2.out _ (H.out.below B4)).mono ?_
            rintro e w5 ⟨⟨t5, rfl, ht5⟩, b5⟩
            go_wp2_with fail
            go_roundg g2
            case measure => omega
            case rel => exact ⟨c + 1, by omega, rfl, rfl, by go_num, boxed_later Q4 b5, B4.then b5, HN2⟩
          | some s =>
            have HN2 : Hid (R = some s) := Lib.hid (by rw [← HN.out, fm_hit hs hfm])
            rw [hfm] at CI
            have CS2 := Lib.hid CS
            have CI2 := Lib.hid CI
            clear CS CI hs hfm hl2 hbl hsz he
            generalize x ++ lt1 c = y at *
            generalize lt1 c = t at *
            go_wp2_with fail
            refine (CS2.out _).mono ?_
            rintro e w4 ⟨rfl, b4⟩
            have Q4 := boxed_later QQ b4
            have k4 := Q4.cell
            have B4 := hB.then b4
            clear kq
            go_wp2_with fail
            refine (CI2.out _ (H.out.below B4)).mono ?_
            rintro e w5 ⟨⟨t5, rfl, ht5⟩, b5⟩
            go_wp2_with fail
            go_ret2
            rw [HN2.out]
            exact ⟨⟨_, rfl, fun s2 e => by cases e; rfl⟩, B4.then b5⟩
        · rw [decide_eq_true hs] at CS
          have HN2 : Hid (fmW I (kids (dfs I.length f) (bl x) (c + 1) g2) = R) := Lib.hid (by rw [← HN.out, fm_miss hs])
          have CS2 := Lib.hid CS
          clear CS CI hs hl2 hbl hsz he
          generalize x ++ lt1 c = y at *
          generalize lt1 c = t at *
          go_wp2_with fail
          refine (CS2.out _).mono ?_
          rintro e w4 ⟨rfl, b4⟩
          go_wp2_with fail
          go_roundg g2
          case measure => omega
          case rel => exact ⟨c + 1, by omega, rfl, rfl, by go_num, boxed_later QQ b4, hB.then b4, HN2⟩
      · obtain rfl : gk = 0 := by omega
        have HN2 : Hid (R = none) := Lib.hid (by rw [← HN.out, kids, fmW_nil])
        go_wp2_with fail
        go_ret2
        rw [HN2.out]
        exact ⟨⟨_, rfl, fun s e => by cases e⟩, hB⟩

theorem lT_le {I : List (List UInt8)} (g : Mor I) : lT I ≤ 12 := by
  unfold lT
  exact tlN_le (mxL_le g _)

set_option maxRecDepth 100000 in
set_option maxHeartbeats 2000000 in
theorem spec_FirstSquareMaker (B : Nat) (v : Value) (I : List (List UInt8)) (w : World) (h : OwnS w B v (I.map bt)) (t : Tot I) :
    Calls Try.prog 43 #[.agg #[v]] w fun e w' => e = .returned (.tuple #[.string (makR I).1, .int .i64 (makR I).2]) ∧ Below w.heap.size w w' := by
  obtain ⟨p, cap, hv⟩ := ownS_value h
  rw [List.length_map] at hv
  subst hv
  have BN : Below w.heap.size w (w.alloc (.cells #[.slice p I.length cap] 53)) := Below.new _ _
  have QN : Boxed (w.alloc (.cells #[.slice p I.length cap] 53)) w.heap.size 53 (.slice p I.length cap) := Boxed.new _ _ _
  have HBN := Lib.hid BN
  have HQN := Lib.hid QN
  have H := Lib.hid h
  by_cases g : Mor I
  · have C1 := Lib.hid fun W h => l06Is_yes B (.slice p I.length cap) I W h g
    have c2 := fun W h => l06Test_any B (.slice p I.length cap) I W h g
    rw [show tlN (mnL I (I.length - 1)) (mxL I (I.length - 1)) = lT I from rfl] at c2
    have hl12 := lT_le g
    by_cases h0 : lT I = 0
    · rw [makR_zero g h0]
      rw [h0] at c2
      have C2 := Lib.hid c2
      clear h t g c2 BN QN
      go_enter Try.func43, Try.ntmps43
      go_wp2_with fail
      refine (C1.out _ (H.out.below HBN.out)).mono ?_
      rintro e w1 ⟨rfl, b1⟩
      have q1 := boxed_later HQN.out b1
      have kq := q1.cell
      have B1 := HBN.out.then b1
      go_wp2_with fail
      refine (C2.out _ (H.out.below B1)).mono ?_
      rintro e w2 ⟨rfl, b2⟩
      go_wp2_with fail
      go_ret2
      exact ⟨rfl, B1.then b2⟩
    · by_cases h5 : 5 < lT I
      · rw [makR_long g h0 h5]
        have C2 := Lib.hid c2
        have i0 : ¬ (lT I : Int) = 0 := by omega
        have i1 : ((lT I : Int) == 0) = false := by rw [beq_eq_false_iff_ne]; omega
        have i5 : (5 : Int) < (lT I : Int) := by omega
        clear h t g c2 BN QN h0 h5
        generalize lT I = N at *
        go_enter Try.func43, Try.ntmps43
        go_wp2_with fail
        refine (C1.out _ (H.out.below HBN.out)).mono ?_
        rintro e w1 ⟨rfl, b1⟩
        have q1 := boxed_later HQN.out b1
        have kq := q1.cell
        have B1 := HBN.out.then b1
        go_wp2_with fail
        refine (C2.out _ (H.out.below B1)).mono ?_
        rintro e w2 ⟨rfl, b2⟩
        go_wp2_with fail
        go_ret2
        exact ⟨rfl, B1.then b2⟩
      · have C2 := Lib.hid c2
        have i0 : ¬ (lT I : Int) = 0 := by omega
        have i1 : ((lT I : Int) == 0) = false := by rw [beq_eq_false_iff_ne]; omega
        have i5 : ¬ (5 : Int) < (lT I : Int) := by omega
        obtain ⟨R, hR⟩ : ∃ R, makR I = R := ⟨_, rfl⟩
        rw [hR]
        have hnone := fun e => makR_none g h0 h5 e
        have hsome := fun s e => makR_some g h0 h5 (s := s) e
        have hst : fmN I I.length (lT I + 1) 0 = fmN I I.length (lT I) 1 := fmN_miss (fmW_zero I _)
        have CM := Lib.hid fun m (hm : m ≤ 5) W h => l06Maker_any B (.slice p I.length cap) I m hm g m ⟨#[]⟩ W h (by show 0 + m = m; omega) (fun c hc => by cases hc)
        have HN := Lib.hid hnone
        have HS := Lib.hid hsome
        have HST := Lib.hid hst
        have HR := Lib.hid hR
        clear h t g c2 BN QN h0 hnone hsome hst hR
        obtain ⟨N, hN⟩ : ∃ N, lT I = N := ⟨_, rfl⟩
        rw [hN] at HN HS HST i0 i1 i5 C2 h5 hl12
        clear hN
        go_enter Try.func43, Try.ntmps43
        go_wp2_with fail
        refine (C1.out _ (H.out.below HBN.out)).mono ?_
        rintro e w1 ⟨rfl, b1⟩
        have q1 := boxed_later HQN.out b1
        have kq := q1.cell
        have B1 := HBN.out.then b1
        go_wp2_with fail
        refine (C2.out _ (H.out.below B1)).mono ?_
        rintro e w2 ⟨rfl, b2⟩
        have q2 := boxed_later q1 b2
        have B2 := B1.then b2
        clear kq q1 b1 B1 b2
        go_wp2_with fail
        go_loopg [5] (N + 1) (fun g s5 wr => ∃ n : Nat, n + g = N + 1 ∧ s5 = .int .i64 (n : Int) ∧ Boxed wr w.heap.size 53 (.slice p I.length cap) ∧ Below w.heap.size w wr ∧ Hid (fmN I I.length g n = fmN I I.length N 1))
        case atStart => exact ⟨0, by omega, rfl, q2, B2, HST⟩
        case round =>
          clear q2 B2
          obtain ⟨n, hg, rfl, QQ, hB, HF⟩ := hrel
          have kq := QQ.cell
          by_cases hp : n ≤ N
          · obtain ⟨g2, rfl⟩ : ∃ g2, gk = g2 + 1 := ⟨gk - 1, by omega⟩
            have hpi : (n : Int) ≤ (N : Int) := by omega
            have CN := CM.out n (by omega) wr (H.out.below hB)
            rw [show bl (⟨#[]⟩ : ByteArray) = [] from rfl] at CN
            cases hfm : fmW I (dfs I.length n []) with
            | none =>
              rw [hfm] at CN
              have HF2 : Hid (fmN I I.length g2 (n + 1) = fmN I I.length N 1) := Lib.hid (by rw [← HF.out, fmN_miss hfm])
              have CN2 := Lib.hid CN
              clear CN hfm
              go_wp2_with fail
              refine CN2.out.mono ?_
              rintro e w5 ⟨⟨t5, rfl, ht5⟩, b5⟩
              go_wp2_with fail
              go_roundg g2
              case measure => omega
              case rel => exact ⟨n + 1, by omega, by go_num, boxed_later QQ b5, hB.then b5, HF2⟩
            | some s =>
              rw [hfm] at CN
              have HF2 : Hid (R = (bt s, 0)) := Lib.hid (by rw [← HR.out, HS.out s (by rw [← HF.out, fmN_hit hfm])])
              have CN2 := Lib.hid CN
              clear CN hfm
              go_wp2_with fail
              refine CN2.out.mono ?_
              rintro e w5 ⟨⟨t5, rfl, ht5⟩, b5⟩
              go_wp2_with fail
              go_ret2
              rw [HF2.out]
              exact ⟨rfl, hB.then b5⟩
          · obtain rfl : gk = 0 := by omega
            have hpi : ¬ (n : Int) ≤ (N : Int) := by omega
            have HF2 : Hid (R = (⟨#[]⟩, 4)) := Lib.hid (by rw [← HR.out, HN.out (by rw [← HF.out]; rfl)])
            go_wp2_with fail
            go_ret2
            rw [HF2.out]
            exact ⟨rfl, hB⟩
  · rw [makR_bad g]
    have C1 := Lib.hid fun W h => l06Is_no B (.slice p I.length cap) I W h t g
    clear h t g BN QN
    go_enter Try.func43, Try.ntmps43
    go_wp2_with fail
    refine (C1.out _ (H.out.below HBN.out)).mono ?_
    rintro e w1 ⟨rfl, b1⟩
    go_wp2_with fail
    go_ret2
    exact ⟨rfl, HBN.out.then b1⟩

end Go.Proofs.Ytolboinemechpab
