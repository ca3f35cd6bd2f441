/- Words found from their images: the model. -/
import Derived.Test.YtolboinemechpabBackI
import Derived.Test.YtolboinemechpabPlacesPlain
import Derived.BigQuiet
import Derived.Deep.QuietTactic
namespace Go.Proofs.Ytolboinemechpab
set_option linter.unusedVariables false
set_option linter.unusedSimpArgs false
open Go.RowKit

theorem infoIntB : (Try.prog.info? 3).map (fun i => (i.zero, i.size, i.bytes)) = some (some (.int .i64 0), 1, 8) := by kernel_rfl
theorem teq_not_nilB {x : ByteArray} (h : ¬ x.size = 0) : x.toList.isEmpty = false := by
  rw [ByteArray.toList_eq, Bool.eq_false_iff]
  intro e
  have := List.isEmpty_iff.1 e
  apply h
  have h2 := congrArg List.length this
  simpa using h2
theorem slice_nmB (x : ByteArray) (a b : Int) (n m : Nat) (ha : a = (n : Int)) (hb : b = (m : Int)) (hnm : n ≤ m) (hm : m ≤ x.size) (W : World) :
    (Instr.slice 9 (.string x) (some (.int .i64 a)) (some (.int .i64 b)) none).run Try.prog W = .ok (.string (x.extract n m)) W := by
  subst ha hb
  exact run_slice_string (P := Try.prog) W 9 x .i64 .i64 (n : Int) (m : Int) Try.underlying9 (by omega) (by omega) (by omega)

/-! ### A table of numbers. -/
def tabV (n : Nat) (g : Nat → Int) : List Value := (List.range (n + 1)).map fun p => Value.int .i64 (g p)
theorem tabV_get (n : Nat) (g : Nat → Int) (p : Nat) (h : p ≤ n) : (tabV n g)[p]? = some (.int .i64 (g p)) := by simp [tabV, show p < n + 1 by omega]
theorem tabV_congr {n : Nat} {g g' : Nat → Int} (h : ∀ p, p ≤ n → g p = g' p) : tabV n g = tabV n g' := by
  unfold tabV
  exact List.map_congr_left fun p hp => by rw [h p (by have := List.mem_range.1 hp; omega)]
theorem tabV_set (n : Nat) (g : Nat → Int) (p : Nat) (z : Int) : (tabV n g).set p (.int .i64 z) = tabV n (fun q => if q = p then z else g q) := by
  apply List.ext_getElem
  · simp [tabV]
  · intro i h1 h2
    rw [List.getElem_set]
    by_cases e : p = i
    · subst e; simp [tabV]
    · rw [if_neg e]
      simp [tabV, Ne.symm e]
theorem tabV_zero (n : Nat) : tabV n (fun _ => 0) = List.replicate (n + 1) (.int .i64 0) := by
  unfold tabV
  rw [List.eq_replicate_iff]
  refine ⟨by rw [List.length_map, List.length_range], fun b hb => ?_⟩
  obtain ⟨s, _, rfl⟩ := List.mem_map.1 hb
  rfl
abbrev TabV (W : World) (B G n : Nat) (g : Nat → Int) : Prop := W.ownsRow B 3 1 (.slice (some ⟨G, 0, none⟩) (n + 1) (n + 1)) (n + 1) (tabV n g)
theorem TabV.at {W : World} {B G n : Nat} {g : Nat → Int} (h : TabV W B G n g) {p : Nat} (hp : p ≤ n) : W.cell? ⟨G, p, none⟩ = some (.int .i64 (g p)) := by
  rw [h.cellAt p (by omega)]
  exact tabV_get n g p hp
theorem TabV.set {W : World} {B G n : Nat} {g : Nat → Int} (h : TabV W B G n g) (p : Nat) (z : Int) : TabV (W.setCell ⟨G, p, none⟩ (.int .i64 z)) B G n (fun q => if q = p then z else g q) := by
  have := (h.stored p (.int .i64 z)).1
  rwa [tabV_set] at this
theorem TabV.congr {W : World} {B G n : Nat} {g g' : Nat → Int} (h : TabV W B G n g) (e : ∀ p, p ≤ n → g p = g' p) : TabV W B G n g' := by
  unfold TabV at h ⊢
  rwa [← tabV_congr e]

/-! ### What the tables tell. -/
def lv : Option (List UInt8) → Int
  | none => -1
  | some r => (r.length : Int)
def tabL (I : List (List UInt8)) (l : List UInt8) (g p : Nat) : Int := if g ≤ p then lv (bk I l p) else 0
def tabLi (I : List (List UInt8)) (l : List UInt8) (i j p : Nat) : Int := if p = i then lv (bkTo I l i j) else tabL I l (i + 1) p
theorem tabL_start (I : List (List UInt8)) (l : List UInt8) : ∀ p, p ≤ l.length → (0 : Int) = tabL I l l.length p := fun p hp => by
  unfold tabL
  by_cases e : l.length ≤ p
  · rw [if_pos e, show p = l.length by omega, bk_end]; rfl
  · rw [if_neg e]
theorem tabLi_start (I : List (List UInt8)) (l : List UInt8) (i p : Nat) : (if p = i then (-1 : Int) else tabL I l (i + 1) p) = tabLi I l i 0 p := by
  unfold tabLi
  rw [bkTo_zero]
  rfl
theorem tabLi_set {I : List (List UInt8)} {l : List UInt8} {i j : Nat} {z : Int} (h : lv (bkTo I l i (j + 1)) = z) (p : Nat) : (if p = i then z else tabLi I l i j p) = tabLi I l i (j + 1) p := by
  unfold tabLi
  by_cases e : p = i
  · rw [if_pos e, if_pos e, h]
  · rw [if_neg e, if_neg e, if_neg e]
theorem tabLi_same {I : List (List UInt8)} {l : List UInt8} {i j : Nat} (h : bkTo I l i (j + 1) = bkTo I l i j) : tabLi I l i (j + 1) = tabLi I l i j := by
  funext p
  unfold tabLi
  rw [h]
theorem tabLi_end (I : List (List UInt8)) (l : List UInt8) (h60 : l.length ≤ 60) (i : Nat) (hi : i < l.length) (p : Nat) : tabLi I l i I.length p = tabL I l i p := by
  unfold tabLi tabL
  by_cases e : p = i
  · rw [if_pos e, if_pos (by omega), ← bk_step I l h60 i hi, e]
  · rw [if_neg e]
    by_cases e2 : i + 1 ≤ p
    · rw [if_pos e2, if_pos (by omega)]
    · rw [if_neg e2, if_neg (by omega)]
theorem tabLi_here (I : List (List UInt8)) (l : List UInt8) (i j : Nat) : tabLi I l i j i = lv (bkTo I l i j) := if_pos rfl
theorem tabLi_past (I : List (List UInt8)) (l : List UInt8) (i j p : Nat) (h : i < p) : tabLi I l i j p = lv (bk I l p) := by
  unfold tabLi tabL
  rw [if_neg (by omega), if_pos (by omega)]
theorem fit_iff {I : List (List UInt8)} {k : Nat} {t : List UInt8} : fitB I k t = true ↔ ¬ (I.getD k []).length = 0 ∧ (I.getD k []).length ≤ t.length ∧ t.take (I.getD k []).length = I.getD k [] := by
  unfold fitB
  rw [Bool.and_eq_true]
  constructor
  · rintro ⟨h1, h2⟩
    have h3 := List.isPrefixOf_iff_prefix.1 h1
    refine ⟨?_, h3.length_le, (List.prefix_iff_eq_take.1 h3).symm⟩
    intro e
    rw [List.eq_nil_of_length_eq_zero e] at h2
    cases h2
  · rintro ⟨h1, h2, h3⟩
    refine ⟨List.isPrefixOf_iff_prefix.2 (List.prefix_iff_eq_take.2 h3.symm), ?_⟩
    cases e : I.getD k [] with
    | nil => rw [e] at h1; simp at h1
    | cons c q => rfl
theorem not_fit {I : List (List UInt8)} {k : Nat} {t : List UInt8} (h : ¬ (¬ (I.getD k []).length = 0 ∧ (I.getD k []).length ≤ t.length ∧ t.take (I.getD k []).length = I.getD k [])) : fitB I k t = false := by
  cases e : fitB I k t with
  | false => rfl
  | true => exact absurd (fit_iff.1 e) h
theorem bk_casesS (I : List (List UInt8)) (l : List UInt8) (h60 : l.length ≤ 60) (i j : Nat) (hi : i < l.length) :
    ((I.getD j []).length = 0 ∧ bkTo I l i (j + 1) = bkTo I l i j) ∨
    (¬ (I.getD j []).length = 0 ∧ l.length < i + (I.getD j []).length ∧ bkTo I l i (j + 1) = bkTo I l i j) ∨
    (¬ (I.getD j []).length = 0 ∧ i + (I.getD j []).length ≤ l.length ∧ ¬ (l.drop i).take (I.getD j []).length = I.getD j [] ∧ bkTo I l i (j + 1) = bkTo I l i j) ∨
    (¬ (I.getD j []).length = 0 ∧ i + (I.getD j []).length ≤ l.length ∧ (l.drop i).take (I.getD j []).length = I.getD j [] ∧ bk I l (i + (I.getD j []).length) = none ∧ bkTo I l i (j + 1) = bkTo I l i j) ∨
    (¬ (I.getD j []).length = 0 ∧ i + (I.getD j []).length ≤ l.length ∧ (l.drop i).take (I.getD j []).length = I.getD j [] ∧ ∃ r, bk I l (i + (I.getD j []).length) = some r ∧ r.length ≤ 60 ∧
      ((∃ u, bkTo I l i j = some u ∧ u.length ≤ 60 ∧ ¬ r.length + 1 < u.length ∧ bkTo I l i (j + 1) = bkTo I l i j) ∨
       (bkTo I l i j = none ∧ bkTo I l i (j + 1) = some (letr j :: r)) ∨
       ∃ u, bkTo I l i j = some u ∧ u.length ≤ 60 ∧ r.length + 1 < u.length ∧ bkTo I l i (j + 1) = some (letr j :: r))) := by
  have hdl : (l.drop i).length = l.length - i := List.length_drop
  by_cases a : (I.getD j []).length = 0
  · exact .inl ⟨a, bkTo_skip (.inl (not_fit fun h => h.1 a))⟩
  · by_cases b : l.length < i + (I.getD j []).length
    · exact .inr (.inl ⟨a, b, bkTo_skip (.inl (not_fit fun h => by omega))⟩)
    · by_cases c : (l.drop i).take (I.getD j []).length = I.getD j []
      · have hf : fitB I j (l.drop i) = true := fit_iff.2 ⟨a, by omega, c⟩
        cases d : bk I l (i + (I.getD j []).length) with
        | none => exact .inr (.inr (.inr (.inl ⟨a, by omega, c, rfl, bkTo_skip (.inr d)⟩)))
        | some r =>
          refine .inr (.inr (.inr (.inr ⟨a, by omega, c, r, rfl, by have := bk_len d; omega, ?_⟩)))
          have ht := bkTo_take hf d
          cases e5 : bkTo I l i j with
          | none => rw [e5] at ht; exact .inr (.inl ⟨rfl, ht⟩)
          | some u =>
            have hu := bkTo_len e5
            rw [e5] at ht
            simp only [better, List.length_cons] at ht
            by_cases e6 : r.length + 1 < u.length
            · rw [if_pos e6] at ht
              exact .inr (.inr ⟨u, rfl, by omega, e6, ht⟩)
            · rw [if_neg e6] at ht
              exact .inl ⟨u, rfl, by omega, e6, ht⟩
      · exact .inr (.inr (.inl ⟨a, by omega, c, bkTo_skip (.inl (not_fit fun h => c h.2.2))⟩))

/-! ### The letter that the best word begins with. -/
theorem bestTo_min (I : List (List UInt8)) (t : List UInt8) (D : Nat → Option (List UInt8)) : ∀ (N k : Nat) (r : List UInt8), k < N → fitB I k t = true → D (I.getD k []).length = some r → ∃ u, bestTo I t D N = some u ∧ u.length ≤ r.length + 1
  | 0, k, r, h, _, _ => by omega
  | N + 1, k, r, h, hf, hd => by
    rw [bestTo]
    by_cases e : k = N
    · subst e
      rw [hf, hd]
      cases e3 : bestTo I t D k with
      | none => exact ⟨_, rfl, by simp⟩
      | some u =>
        simp only [better, List.length_cons]
        split
        · exact ⟨_, rfl, by simp⟩
        · exact ⟨_, rfl, by omega⟩
    · obtain ⟨u, h1, h2⟩ := bestTo_min I t D N k r (by omega) hf hd
      rw [h1]
      cases e1 : fitB I N t with
      | false => exact ⟨u, rfl, h2⟩
      | true =>
        cases e2 : D (I.getD N []).length with
        | none => exact ⟨u, rfl, h2⟩
        | some q =>
          simp only [better, List.length_cons]
          split
          · exact ⟨_, rfl, by rw [List.length_cons]; omega⟩
          · exact ⟨_, rfl, h2⟩
theorem bestTo_win (I : List (List UInt8)) (t : List UInt8) (D : Nat → Option (List UInt8)) : ∀ (N : Nat) (s : List UInt8), bestTo I t D N = some s →
    ∃ k r, k < N ∧ fitB I k t = true ∧ D (I.getD k []).length = some r ∧ s = letr k :: r ∧ ∀ k', k' < k → fitB I k' t = true → ∀ r', D (I.getD k' []).length = some r' → s.length < r'.length + 1
  | 0, s, h => by cases h
  | N + 1, s, h => by
    rw [bestTo] at h
    have ih := bestTo_win I t D N
    have up : ∀ s, bestTo I t D N = some s → ∃ k r, k < N + 1 ∧ fitB I k t = true ∧ D (I.getD k []).length = some r ∧ s = letr k :: r ∧ ∀ k', k' < k → fitB I k' t = true → ∀ r', D (I.getD k' []).length = some r' → s.length < r'.length + 1 := fun s hs => by
      obtain ⟨k, r, h1, h2⟩ := ih s hs
      exact ⟨k, r, by omega, h2⟩
    cases e1 : fitB I N t with
    | false => rw [e1] at h; exact up s h
    | true =>
      cases e2 : D (I.getD N []).length with
      | none => rw [e1, e2] at h; exact up s h
      | some q =>
        rw [e1, e2] at h
        dsimp only at h
        cases e3 : bestTo I t D N with
        | none =>
          rw [e3] at h
          simp only [better] at h
          cases h
          refine ⟨N, q, by omega, e1, e2, rfl, fun k' hk' hf r' hr' => ?_⟩
          obtain ⟨u, h1, _⟩ := bestTo_min I t D N k' r' hk' hf hr'
          rw [e3] at h1
          cases h1
        | some u =>
          rw [e3] at h
          simp only [better] at h
          split at h
          · rename_i hlt
            cases h
            refine ⟨N, q, by omega, e1, e2, rfl, fun k' hk' hf r' hr' => ?_⟩
            obtain ⟨u', h1, h2⟩ := bestTo_min I t D N k' r' hk' hf hr'
            rw [e3] at h1
            cases h1
            omega
          · cases h; exact up _ e3
theorem bk_win (I : List (List UInt8)) (l : List UInt8) (h60 : l.length ≤ 60) (i : Nat) (hi : i < l.length) (s : List UInt8) (h : bk I l i = some s) :
    ∃ k r, k < I.length ∧ fitB I k (l.drop i) = true ∧ bk I l (i + (I.getD k []).length) = some r ∧ s = letr k :: r ∧ ∀ k', k' < k → fitB I k' (l.drop i) = true → ∀ r', bk I l (i + (I.getD k' []).length) = some r' → s.length < r'.length + 1 := by
  rw [bk_step I l h60 i hi] at h
  obtain ⟨k, r, h1, h2, h3, h4, h5⟩ := bestTo_win I (l.drop i) _ I.length s h
  have hl := fit_len h2
  rw [if_neg (by omega)] at h3
  refine ⟨k, r, h1, h2, h3, h4, fun k' hk' hf r' hr' => h5 k' hk' hf r' ?_⟩
  have hl' := fit_len hf
  rw [if_neg (by omega)]
  exact hr'

set_option maxRecDepth 100000 in
set_option maxHeartbeats 4000000 in
theorem spec_WordFromImage_ok (B : Nat) (v : Value) (I : List (List UInt8)) (x : ByteArray) (w : World) (h : OwnS w B v (I.map bt)) (t : Tot I) (g : Mor I ∧ IsW x) (hf : Few I.length x) :
    Calls Try.prog 41 #[.agg #[v], .string x] w fun e w' => e = .returned (.tuple #[.string (backR I x).1, .int .i64 (backR I x).2]) ∧ Below w.heap.size w w' := by
  obtain ⟨i0, hi, hz0, hz1, hz2⟩ := info_parts infoIntB
  have h1 := g.1.len1
  have h5 := g.1.len5
  have hx := g.2.size
  have hlx : (lts x).length = x.size := lt_len x
  have CC := Lib.hid (l06Code_is B v I x (w.alloc (.cells #[v] 53)) (h.below (Below.new _ _)) t (by unfold Go.maxLen; omega) 0 (mwC_ok g hf))
  obtain ⟨p, cap, rfl, hg, hc, cell⟩ := h.rowM (by omega)
  obtain ⟨R, hR⟩ : ∃ R, backR I x = R := ⟨_, rfl⟩
  have HR : Hid (backR I x = R) := Lib.hid hR
  rw [hR]
  have G := Lib.hid g
  have HF := Lib.hid hf
  have C := Lib.hid cell
  clear h t g hf cell hR
  go_enter Try.func41, Try.ntmps41
  go_wp2_with fail
  refine CC.out.mono ?_
  rintro e w1 ⟨rfl, b1⟩
  have Q1 : Boxed w1 w.heap.size 53 (.slice (some ⟨p, 0, none⟩) I.length cap) := boxed_later boxed_alone b1
  have BW1 : Below w.heap.size w w1 := (Below.new _ _).then b1
  have hz1' := BW1.size
  have hm1 : w.heap.size < w1.heap.size := Q1.lt
  clear CC b1
  go_wp2_with (at_make; refine wpList_make_full _ rfl _ _ 106 rfl w.heap.size 3 i0 (.int .i64 0) 1 Try.underlying106 hi hz0 hz1 .i64 .i64 ((x.size : Int) + 1) ((x.size : Int) + 1) (x.size + 1) rfl rfl (by omega) (by omega) (by rw [hz2]; omega) (by unfold maxLen; omega) hz1' ?_; intro wm hown hgrow)
  have hown0 : TabV wm w.heap.size w1.heap.size x.size (tabL I (lts x) x.size) := by
    have h2 := hown
    rw [show (Value.int .i64 0).cells = #[Value.int .i64 0] from rfl, toList_madeCells_one, Nat.mul_one, ← tabV_zero] at h2
    exact TabV.congr h2 (by rw [← hlx]; exact tabL_start I (lts x))
  have Bm : Below w.heap.size w wm := BW1.grown hgrow hz1' (fun _ e => by cases e)
  have Qm : Boxed wm w.heap.size 53 (.slice (some ⟨p, 0, none⟩) I.length cap) := Q1.kept hgrow (by simp)
  clear hown hgrow Q1 BW1
  generalize hG : w1.heap.size = M at *
  clear hG
  go_wp2_with fail
  go_loopg [9] x.size (fun gg s9 wr => gg ≤ x.size ∧ s9 = .int .i64 ((gg : Int) - 1) ∧ TabV wr w.heap.size M x.size (tabL I (lts x) gg) ∧ Boxed wr w.heap.size 53 (.slice (some ⟨p, 0, none⟩) I.length cap) ∧ Below w.heap.size w wr)
  case atStart => exact ⟨Nat.le_refl _, rfl, hown0, Qm, Bm⟩
  case round =>
    clear hown0 Qm Bm
    obtain ⟨hgx, rfl, hown, QQ, hB⟩ := hrel
    by_cases hp : 0 < gk
    · obtain ⟨i, rfl⟩ : ∃ i, gk = i + 1 := ⟨gk - 1, by omega⟩
      have hi1 : ((i + 1 : Nat) : Int) - 1 = (i : Int) := by omega
      rw [hi1]
      clear hi1
      have fi : wr.frozen? ⟨M, i, none⟩ = false := hown.frozenAt i
      have ci := hown.at (p := i) (by omega)
      have hin : i < x.size + 1 := by omega
      have hini : (i : Int) < (x.size : Int) + 1 := by omega
      have hpi : (0 : Int) ≤ (i : Int) := by omega
      have HT := Lib.hid ((hown.set i (-1)).congr (fun p _ => tabLi_start I (lts x) i p))
      have HB := Lib.hid (hB.setCell (p := ⟨M, i, none⟩) (by show _ ≤ M; omega) (.int .i64 (-1)))
      have HQ := Lib.hid (QQ.kept (grown_set (grown_refl wr (some M)) i (.int .i64 (-1))) (by intro e; injection e with e; omega))
      have kq := HQ.out.cell
      clear hown QQ hB
      go_wp2_with fail
      go_loopw [10] (fun s10 wr2 => ∃ j : Nat, j ≤ I.length ∧ s10 = .int .i64 (j : Int) ∧ TabV wr2 w.heap.size M x.size (tabLi I (lts x) i j) ∧ Boxed wr2 w.heap.size 53 (.slice (some ⟨p, 0, none⟩) I.length cap) ∧ Below w.heap.size w wr2)
        (fun s10 _ => I.length - (intOf s10).toNat)
      case atStart => exact ⟨0, Nat.zero_le _, rfl, HT.out, HQ.out, HB.out⟩
      case round =>
        clear HT HQ HB kq ci fi
        obtain ⟨j, hj, rfl, hown, QQ, hB⟩ := hrel
        have kq := QQ.cell
        by_cases hpj : j < I.length
        · have kc : wr.cell? ⟨p, j, none⟩ = some (.string (bt (I[j]'hpj))) := by rw [(bcell hB).1 p j hg]; exact C.out j hpj
          have hz12 : (bt (I[j]'hpj)).size ≤ 12 := (G.out.1.im j hpj).1
          have hgd : I.getD j [] = I[j]'hpj := by simp [List.getD_eq_getElem?_getD, hpj]
          have hzl : (I.getD j []).length = (bt (I[j]'hpj)).size := by rw [hgd]; exact (bt_size _).symm
          have hcs := bk_casesS I (lts x) (by omega) i j (by omega)
          rw [hzl, hlx] at hcs
          have hse : i + (bt (I[j]'hpj)).size ≤ x.size → (((lts x).drop i).take (bt (I[j]'hpj)).size = I.getD j [] ↔ x.extract i (i + (bt (I[j]'hpj)).size) = bt (I[j]'hpj)) := fun hle => by
            have e1 : ((lts x).drop i).take (bt (I[j]'hpj)).size = lts (x.extract i (i + (bt (I[j]'hpj)).size)) := by
              have := bl_extract x i (i + (bt (I[j]'hpj)).size)
              rw [Nat.add_sub_cancel_left] at this
              exact this.symm
            rw [e1, hgd]
            constructor
            · intro e
              have := congrArg bt e
              rwa [bt_lt] at this
            · intro e; rw [e, lt_bt]
          clear hzl hgd
          generalize bt (I[j]'hpj) = z at *
          have hjc : j < cap := by omega
          have hji : (j : Int) < (I.length : Int) := by omega
          have hj0 : (0 : Int) ≤ (j : Int) := by omega
          rcases hcs with ⟨c0, c2⟩ | ⟨c0, c1, c2⟩ | ⟨c0, c1, c3, c2⟩ | ⟨c0, c1, c3, c4, c2⟩ | ⟨c0, c1, c3, r, c4, hr, c5⟩
          · obtain rfl : z = ⟨#[]⟩ := by
              apply ByteArray.ext
              exact Array.eq_empty_of_size_eq_zero c0
            rw [← tabLi_same c2] at hown
            have HT := Lib.hid hown
            clear hown c2 hse
            go_wp2_with fail
            go_roundw
            case rel => exact ⟨j + 1, by omega, by go_num, HT.out, QQ, hB⟩
            case measure => simp [intOf]; omega
          · have hne := teq_not_nilB c0
            have hci : (x.size : Int) < (i : Int) + (z.size : Int) := by omega
            rw [← tabLi_same c2] at hown
            have HT := Lib.hid hown
            clear hown c2 hse
            go_wp2_with fail
            go_roundw
            case rel => exact ⟨j + 1, by omega, by go_num, HT.out, QQ, hB⟩
            case measure => simp [intOf]; omega
          · have hne := teq_not_nilB c0
            have hci : ¬ (x.size : Int) < (i : Int) + (z.size : Int) := by omega
            have hsl := fun W => slice_nmB x (i : Int) ((i : Int) + (z.size : Int)) i (i + z.size) rfl (by omega) (by omega) c1 W
            have hqn := teq_no (fun e => c3 ((hse c1).2 e))
            rw [← tabLi_same c2] at hown
            have HT := Lib.hid hown
            clear hown c2 hse c3
            generalize x.extract i (i + z.size) = y at *
            go_wp2_with fail
            go_roundw
            case rel => exact ⟨j + 1, by omega, by go_num, HT.out, QQ, hB⟩
            case measure => simp [intOf]; omega
          · have hne := teq_not_nilB c0
            have hci : ¬ (x.size : Int) < (i : Int) + (z.size : Int) := by omega
            have hsl := fun W => slice_nmB x (i : Int) ((i : Int) + (z.size : Int)) i (i + z.size) rfl (by omega) (by omega) c1 W
            have hqy := teq_yes ((hse c1).1 c3)
            have ck := hown.at (p := i + z.size) c1
            rw [tabLi_past _ _ _ _ _ (by omega), c4] at ck
            have q0 : (0 : Int) ≤ (i : Int) + (z.size : Int) := by omega
            have q1 : ((i : Int) + (z.size : Int)).toNat = i + z.size := by omega
            have q2 : (i : Int) + (z.size : Int) < (x.size : Int) + 1 := by omega
            have q3 : i + z.size < x.size + 1 := by omega
            rw [← tabLi_same c2] at hown
            have HT := Lib.hid hown
            clear hown c2 hse c3
            generalize x.extract i (i + z.size) = y at *
            simp only [lv] at ck
            go_wp2_with fail
            go_roundw
            case rel => exact ⟨j + 1, by omega, by go_num, HT.out, QQ, hB⟩
            case measure => simp [intOf]; omega
          · have hne := teq_not_nilB c0
            have hci : ¬ (x.size : Int) < (i : Int) + (z.size : Int) := by omega
            have hsl := fun W => slice_nmB x (i : Int) ((i : Int) + (z.size : Int)) i (i + z.size) rfl (by omega) (by omega) c1 W
            have hqy := teq_yes ((hse c1).1 c3)
            have ck := hown.at (p := i + z.size) c1
            rw [tabLi_past _ _ _ _ _ (by omega), c4] at ck
            have ci := hown.at (p := i) (by omega)
            rw [tabLi_here] at ci
            have fi : wr.frozen? ⟨M, i, none⟩ = false := hown.frozenAt i
            have q0 : (0 : Int) ≤ (i : Int) + (z.size : Int) := by omega
            have q1 : ((i : Int) + (z.size : Int)).toNat = i + z.size := by omega
            have q2 : (i : Int) + (z.size : Int) < (x.size : Int) + 1 := by omega
            have q3 : i + z.size < x.size + 1 := by omega
            clear hse c3
            generalize x.extract i (i + z.size) = y at *
            simp only [lv] at ck
            obtain ⟨n, hn⟩ : ∃ n : Nat, r.length = n := ⟨_, rfl⟩
            rw [hn] at ck hr c5
            have hn0 : ¬ (n : Int) < 0 := by omega
            have wq : IntKind.i64.wrap (1 + (n : Int)) = 1 + (n : Int) := IntWalk.i64_in _ (by omega)
            rcases c5 with ⟨u, d1, hu, hlt, c2⟩ | ⟨d1, c2⟩ | ⟨u, d1, hu, hlt, c2⟩
            · rw [d1] at ci
              simp only [lv] at ci
              have e1 : ¬ (u.length : Int) < 0 := by omega
              have e2 : ¬ 1 + (n : Int) < (u.length : Int) := by omega
              rw [← tabLi_same c2] at hown
              have HT := Lib.hid hown
              clear hown c2
              go_wp2_with fail
              go_roundw
              case rel => exact ⟨j + 1, by omega, by go_num, HT.out, QQ, hB⟩
              case measure => simp [intOf]; omega
            · rw [d1] at ci
              simp only [lv] at ci
              have HT := Lib.hid ((hown.set i (1 + (n : Int))).congr (fun p _ => tabLi_set (by rw [c2, lv, List.length_cons, hn]; omega) p))
              have HB := Lib.hid (hB.setCell (p := ⟨M, i, none⟩) (by show _ ≤ M; omega) (.int .i64 (1 + (n : Int))))
              have HQ := Lib.hid (QQ.kept (grown_set (grown_refl wr (some M)) i (.int .i64 (1 + (n : Int)))) (by intro e; injection e with e; omega))
              clear hown c2
              go_wp2_with fail
              go_roundw
              case rel => exact ⟨j + 1, by omega, by go_num, HT.out, HQ.out, HB.out⟩
              case measure => simp [intOf]; omega
            · rw [d1] at ci
              simp only [lv] at ci
              have e1 : ¬ (u.length : Int) < 0 := by omega
              have e2 : 1 + (n : Int) < (u.length : Int) := by omega
              have HT := Lib.hid ((hown.set i (1 + (n : Int))).congr (fun p _ => tabLi_set (by rw [c2, lv, List.length_cons, hn]; omega) p))
              have HB := Lib.hid (hB.setCell (p := ⟨M, i, none⟩) (by show _ ≤ M; omega) (.int .i64 (1 + (n : Int))))
              have HQ := Lib.hid (QQ.kept (grown_set (grown_refl wr (some M)) i (.int .i64 (1 + (n : Int)))) (by intro e; injection e with e; omega))
              clear hown c2
              go_wp2_with fail
              go_roundw
              case rel => exact ⟨j + 1, by omega, by go_num, HT.out, HQ.out, HB.out⟩
              case measure => simp [intOf]; omega
        · obtain rfl : j = I.length := by omega
          have HT := Lib.hid (hown.congr (fun p _ => tabLi_end I (lts x) (by omega) i (by omega) p))
          clear hown
          go_wp2_with fail
          go_roundg i
          case measure => omega
          case rel => exact ⟨by omega, by rfl, HT.out, QQ, hB⟩
    · obtain rfl : gk = 0 := by omega
      have c0 := hown.at (p := 0) (Nat.zero_le _)
      have h0 : tabL I (lts x) 0 0 = lv (bk I (lts x) 0) := if_pos (Nat.le_refl _)
      rw [h0] at c0
      have hx1 : (0 : Int) < (x.size : Int) + 1 := by omega
      have hx2 : 0 < x.size + 1 := by omega
      cases hbk : bk I (lts x) 0 with
      | none =>
        rw [hbk] at c0
        simp only [lv] at c0
        have HE := Lib.hid (backR_none G.out HF.out hbk)
        go_wp2_with fail
        go_ret2
        rw [← HR.out, HE.out]
        exact ⟨rfl, hB⟩
      | some R0 =>
        rw [hbk] at c0
        simp only [lv] at c0
        have HE := Lib.hid (backR_some G.out HF.out hbk)
        have e0 : ¬ (R0.length : Int) < 0 := by omega
        go_wp2_with fail
        go_loopg [13, 14] x.size (fun gg s13 s14 wr => ∃ (i : Nat) (pre suf : List UInt8), i + gg = x.size ∧ s14 = .int .i64 (i : Int) ∧ s13 = .string (bt pre) ∧ pre.length ≤ i ∧ bk I (lts x) i = some suf ∧ Hid (pre ++ suf = R0) ∧ TabV wr w.heap.size M x.size (tabL I (lts x) 0) ∧ Boxed wr w.heap.size 53 (.slice (some ⟨p, 0, none⟩) I.length cap) ∧ Below w.heap.size w wr)
        case atStart => exact ⟨0, [], R0, by omega, rfl, rfl, Nat.le_refl _, hbk, Lib.hid rfl, hown, QQ, hB⟩
        case round =>
          clear hown QQ hB c0 h0 hbk
          obtain ⟨i, pre, suf, hig, rfl, rfl, hpl, hbk, HPS, hown, QQ, hB⟩ := hrel
          by_cases hpi : i < x.size
          · obtain ⟨K, r, hK, hfit, hbr, hsf, hfirst⟩ := bk_win I (lts x) (by omega) i (by omega) suf hbk
            have hii : (i : Int) < (x.size : Int) := by omega
            have hps : (bt pre).size ≤ 60 := by rw [bt_size]; omega
            have HFI := Lib.hid hfirst
            clear hfirst
            have hsl60 := bk_len hbk
            go_wp2_with fail
            go_loopw [13, 14, 15] (fun s13 s14 s15 wr2 => ∃ k : Nat, k ≤ K ∧ s15 = .int .i64 (k : Int) ∧ s13 = .string (bt pre) ∧ s14 = .int .i64 (i : Int) ∧ TabV wr2 w.heap.size M x.size (tabL I (lts x) 0) ∧ Boxed wr2 w.heap.size 53 (.slice (some ⟨p, 0, none⟩) I.length cap) ∧ Below w.heap.size w wr2)
              (fun _ _ s15 _ => I.length - (intOf s15).toNat)
            case atStart => exact ⟨0, Nat.zero_le _, rfl, rfl, rfl, hown, QQ, hB⟩
            case round =>
              clear hown QQ hB
              obtain ⟨j, hj, rfl, rfl, rfl, hown, QQ, hB⟩ := hrel
              have kq := QQ.cell
              have hpj : j < I.length := by omega
              have kc : wr.cell? ⟨p, j, none⟩ = some (.string (bt (I[j]'hpj))) := by rw [(bcell hB).1 p j hg]; exact C.out j hpj
              have hz12 : (bt (I[j]'hpj)).size ≤ 12 := (G.out.1.im j hpj).1
              have hgd : I.getD j [] = I[j]'hpj := by simp [List.getD_eq_getElem?_getD, hpj]
              have hzl : (I.getD j []).length = (bt (I[j]'hpj)).size := by rw [hgd]; exact (bt_size _).symm
              have hse : i + (bt (I[j]'hpj)).size ≤ x.size → (((lts x).drop i).take (bt (I[j]'hpj)).size = I.getD j [] ↔ x.extract i (i + (bt (I[j]'hpj)).size) = bt (I[j]'hpj)) := fun hle => by
                have e1 : ((lts x).drop i).take (bt (I[j]'hpj)).size = lts (x.extract i (i + (bt (I[j]'hpj)).size)) := by
                  have := bl_extract x i (i + (bt (I[j]'hpj)).size)
                  rw [Nat.add_sub_cancel_left] at this
                  exact this.symm
                rw [e1, hgd]
                constructor
                · intro e
                  have := congrArg bt e
                  rwa [bt_lt] at this
                · intro e; rw [e, lt_bt]
              have hft : fitB I j ((lts x).drop i) = true ↔ ¬ (bt (I[j]'hpj)).size = 0 ∧ i + (bt (I[j]'hpj)).size ≤ x.size ∧ ((lts x).drop i).take (bt (I[j]'hpj)).size = I.getD j [] := by
                rw [fit_iff, hzl, List.length_drop, hlx]
                constructor
                · rintro ⟨a, b, c⟩; exact ⟨a, by omega, c⟩
                · rintro ⟨a, b, c⟩; exact ⟨a, by omega, c⟩
              have hjc : j < cap := by omega
              have hji : (j : Int) < (I.length : Int) := by omega
              have hj0 : (0 : Int) ≤ (j : Int) := by omega
              by_cases hjK : j < K
              · have hnot : fitB I j ((lts x).drop i) = true → ∀ r', bk I (lts x) (i + (bt (I[j]'hpj)).size) = some r' → suf.length < r'.length + 1 := fun a r' b => HFI.out j hjK a r' (by rw [hzl]; exact b)
                clear hzl hgd
                generalize bt (I[j]'hpj) = z at *
                by_cases c0 : z.size = 0
                · obtain rfl : z = ⟨#[]⟩ := by
                    apply ByteArray.ext
                    exact Array.eq_empty_of_size_eq_zero c0
                  clear hse hft hnot
                  go_wp2_with fail
                  go_quiet (fail)
                  go_wp2_with fail
                  go_roundw
                  case rel => exact ⟨j + 1, by omega, by go_num, rfl, rfl, hown, QQ, hB.drewN _⟩
                  case measure => simp [intOf]; omega
                · have hne := teq_not_nilB c0
                  by_cases c1 : i + z.size ≤ x.size
                  · have hci : (i : Int) + (z.size : Int) ≤ (x.size : Int) := by omega
                    have hsl := fun W => slice_nmB x (i : Int) ((i : Int) + (z.size : Int)) i (i + z.size) rfl (by omega) (by omega) c1 W
                    by_cases c3 : ((lts x).drop i).take z.size = I.getD j []
                    · have hqy := teq_yes ((hse c1).1 c3)
                      have ck := hown.at (p := i + z.size) c1
                      rw [show tabL I (lts x) 0 (i + z.size) = lv (bk I (lts x) (i + z.size)) from if_pos (Nat.zero_le _)] at ck
                      have ci := hown.at (p := i) (by omega)
                      rw [show tabL I (lts x) 0 i = lv (bk I (lts x) i) from if_pos (Nat.zero_le _), hbk] at ci
                      have hin : i < x.size + 1 := by omega
                      have hini : (i : Int) < (x.size : Int) + 1 := by omega
                      have hi0 : (0 : Int) ≤ (i : Int) := by omega
                      have q0 : (0 : Int) ≤ (i : Int) + (z.size : Int) := by omega
                      have q1 : ((i : Int) + (z.size : Int)).toNat = i + z.size := by omega
                      have q2 : (i : Int) + (z.size : Int) < (x.size : Int) + 1 := by omega
                      have q3 : i + z.size < x.size + 1 := by omega
                      have hnot2 := hnot (hft.2 ⟨c0, c1, c3⟩)
                      clear hse hft hnot c3
                      generalize x.extract i (i + z.size) = y at *
                      cases hb2 : bk I (lts x) (i + z.size) with
                      | none =>
                        rw [hb2] at ck
                        simp only [lv] at ck ci
                        have hd : decide ((-1 : Int) ≥ 0) = false := rfl
                        go_wp2_with fail
                        go_quiet (fail)
                        go_wp2_with fail
                        go_roundw
                        case rel => exact ⟨j + 1, by omega, by go_num, rfl, rfl, hown, QQ, hB.drewN _⟩
                        case measure => simp [intOf]; omega
                      | some r' =>
                        have hlt := hnot2 r' hb2
                        have hr60 := bk_len hb2
                        rw [hb2] at ck
                        simp only [lv] at ck ci
                        obtain ⟨n, hn⟩ : ∃ n : Nat, r'.length = n := ⟨_, rfl⟩
                        obtain ⟨m, hm⟩ : ∃ m : Nat, suf.length = m := ⟨_, rfl⟩
                        rw [hn] at ck hlt hr60
                        rw [hm] at ci hlt hsl60
                        have hn0 : (0 : Int) ≤ (n : Int) := by omega
                        have wq : IntKind.i64.wrap (1 + (n : Int)) = 1 + (n : Int) := IntWalk.i64_in _ (by omega)
                        have hmn : ¬ (m : Int) = 1 + (n : Int) := by omega
                        have hmd : decide ((m : Int) = 1 + (n : Int)) = false := decide_eq_false hmn
                        clear hn hm
                        go_wp2_with fail
                        go_quiet (fail)
                        go_wp2_with fail
                        go_roundw
                        case rel => exact ⟨j + 1, by omega, by go_num, rfl, rfl, hown, QQ, hB.drewN _⟩
                        case measure => simp [intOf]; omega
                    · have hqn := teq_no (fun e => c3 ((hse c1).2 e))
                      clear hse hft hnot c3
                      generalize x.extract i (i + z.size) = y at *
                      go_wp2_with fail
                      go_quiet (fail)
                      go_wp2_with fail
                      go_roundw
                      case rel => exact ⟨j + 1, by omega, by go_num, rfl, rfl, hown, QQ, hB.drewN _⟩
                      case measure => simp [intOf]; omega
                  · have hci : ¬ (i : Int) + (z.size : Int) ≤ (x.size : Int) := by omega
                    have hcd : decide ((i : Int) + (z.size : Int) ≤ (x.size : Int)) = false := decide_eq_false hci
                    clear hse hft hnot
                    go_wp2_with fail
                    go_quiet (fail)
                    go_wp2_with fail
                    go_roundw
                    case rel => exact ⟨j + 1, by omega, by go_num, rfl, rfl, hown, QQ, hB.drewN _⟩
                    case measure => simp [intOf]; omega
              · obtain rfl : j = K := by omega
                obtain ⟨c0, c1, c3⟩ := hft.1 hfit
                rw [hzl] at hbr
                clear hzl hgd hft
                generalize bt (I[j]'hpj) = z at *
                have hne := teq_not_nilB c0
                have hci : (i : Int) + (z.size : Int) ≤ (x.size : Int) := by omega
                have hsl := fun W => slice_nmB x (i : Int) ((i : Int) + (z.size : Int)) i (i + z.size) rfl (by omega) (by omega) c1 W
                have hqy := teq_yes ((hse c1).1 c3)
                have ck := hown.at (p := i + z.size) c1
                rw [show tabL I (lts x) 0 (i + z.size) = lv (bk I (lts x) (i + z.size)) from if_pos (Nat.zero_le _), hbr] at ck
                have ci := hown.at (p := i) (by omega)
                rw [show tabL I (lts x) 0 i = lv (bk I (lts x) i) from if_pos (Nat.zero_le _), hbk] at ci
                have hin : i < x.size + 1 := by omega
                have hini : (i : Int) < (x.size : Int) + 1 := by omega
                have hi0 : (0 : Int) ≤ (i : Int) := by omega
                have q0 : (0 : Int) ≤ (i : Int) + (z.size : Int) := by omega
                have q1 : ((i : Int) + (z.size : Int)).toNat = i + z.size := by omega
                have q2 : (i : Int) + (z.size : Int) < (x.size : Int) + 1 := by omega
                have q3 : i + z.size < x.size + 1 := by omega
                have hsl2 : suf.length = r.length + 1 := by rw [hsf]; rfl
                simp only [lv] at ck ci
                rw [hsl2] at ci
                have HPS2 : Hid ((pre ++ [letr j]) ++ r = R0) := Lib.hid (by rw [← HPS.out, hsf]; simp)
                have HBR := Lib.hid hbr
                obtain ⟨n, hn⟩ : ∃ n : Nat, r.length = n := ⟨_, rfl⟩
                rw [hn] at ck ci
                have hn60 : n ≤ 60 := by omega
                have hn0 : (0 : Int) ≤ (n : Int) := by omega
                have wq : IntKind.i64.wrap (1 + (n : Int)) = 1 + (n : Int) := IntWalk.i64_in _ (by omega)
                rw [show ((n + 1 : Nat) : Int) = 1 + (n : Int) by omega] at ci
                have he := encode_letter j (by omega)
                have hcv : ∀ W : World, (convert 21 9 (.int .i32 (97 + (j : Int)))).run Try.prog W = .ok (.string (lt1 j)) W := fun W => by
                  rw [run_convert_int_string W _ _ _ _ (by rw [Try.underlying21]; rfl) Try.underlying9, he]
                have hsum : ∀ W, (Op.stringOp .add (bt pre) (lt1 j)).run Try.prog W = .ok (.string (bt pre ++ lt1 j)) W := fun W => run_string_add_sum W _ _ (by rw [lt1_size]; omega)
                have HY : Hid (bt pre ++ lt1 j = bt (pre ++ [letr j])) := Lib.hid (bl_inj (by rw [bl_append]; rfl))
                have hl1 := lt1_size j
                clear hse c3 hsl2 he hsf hbr hfit
                generalize x.extract i (i + z.size) = y at *
                generalize bt pre ++ lt1 j = o2 at *
                generalize lt1 j = t1 at *
                generalize bt pre = o1 at *
                go_wp2_with fail
                go_quiet (fail)
                go_wp2_with fail
                go_roundg (x.size - (i + z.size))
                case measure => omega
                case rel => exact ⟨i + z.size, pre ++ [letr j], r, by omega, by go_num, by rw [HY.out], by rw [List.length_append, List.length_singleton]; omega, HBR.out, HPS2, hown, QQ, hB.drewN _⟩
          · obtain rfl : i = x.size := by omega
            have hend : suf = [] := by
              have := bk_len hbk
              exact List.eq_nil_of_length_eq_zero (by omega)
            have HPR : Hid (pre = R0) := Lib.hid (by rw [← HPS.out, hend, List.append_nil])
            go_wp2_with fail
            go_ret2
            rw [← HR.out, HE.out, ← HPR.out]
            exact ⟨rfl, hB⟩

set_option maxRecDepth 100000 in
set_option maxHeartbeats 2000000 in
theorem spec_WordFromImage (B : Nat) (v : Value) (I : List (List UInt8)) (x : ByteArray) (w : World) (h : OwnS w B v (I.map bt)) (t : Tot I) (sx : x.size ≤ maxLen) :
    Calls Try.prog 41 #[.agg #[v], .string x] w fun e w' => e = .returned (.tuple #[.string (backR I x).1, .int .i64 (backR I x).2]) ∧ Below w.heap.size w w' := by
  by_cases g : Mor I ∧ IsW x
  · by_cases hf : Few I.length x
    · exact spec_WordFromImage_ok B v I x w h t g hf
    · rw [backR_out g hf]
      have CC := Lib.hid (l06Code_is B v I x (w.alloc (.cells #[v] 53)) (h.below (Below.new _ _)) t sx 2 (mwC_out g hf))
      obtain ⟨p, c, hv⟩ := ownS_value h
      rw [List.length_map] at hv
      subst hv
      clear h t g hf
      go_enter Try.func41, Try.ntmps41
      go_wp2_with fail
      refine CC.out.mono ?_
      rintro e w1 ⟨rfl, b1⟩
      go_wp2_with fail
      go_ret2
      exact ⟨rfl, (Below.new _ _).then b1⟩
  · rw [backR_bad g]
    have CC := Lib.hid (l06Code_is B v I x (w.alloc (.cells #[v] 53)) (h.below (Below.new _ _)) t sx 1 (mwC_bad g))
    obtain ⟨p, c, hv⟩ := ownS_value h
    rw [List.length_map] at hv
    subst hv
    clear h t g
    go_enter Try.func41, Try.ntmps41
    go_wp2_with fail
    refine CC.out.mono ?_
    rintro e w1 ⟨rfl, b1⟩
    go_wp2_with fail
    go_ret2
    exact ⟨rfl, (Below.new _ _).then b1⟩

end Go.Proofs.Ytolboinemechpab
