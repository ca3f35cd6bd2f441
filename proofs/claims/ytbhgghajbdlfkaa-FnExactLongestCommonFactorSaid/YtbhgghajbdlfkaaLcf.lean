/- The table of common lengths: the program. -/
import Derived.Test.YtbhgghajbdlfkaaLcfPlain
import Derived.Test.YtbhgghajbdlfkaaInts
import Derived.Test.YtbhgghajbdlfkaaRows2
import Derived.Test.YtbhgghajbdlfkaaPlacesPlain
import Derived.Deep.LoopGhost
import Derived.Deep.QuietTactic
import Derived.BigQuiet
import Derived.StillTailTactics
import Derived.IntWalk
import Derived.Below
import Derived.OneCell
namespace Go.Proofs.Ytbhgghajbdlfkaa
set_option linter.unusedVariables false
set_option linter.unusedSimpArgs false
open Go.RowKit

theorem slice_three (W : World) (g T lo wd : Nat) (h : lo + wd ≤ T) (hT : T ≤ 10000) (hw : 0 < wd) :
    (Instr.slice 22 (.slice (some ⟨g, 0, none⟩) T T) (some (.int .i64 (lo : Int))) (some (.int .i64 ((lo : Int) + (wd : Int)))) (some (.int .i64 ((lo : Int) + (wd : Int))))).run Try.prog W = .ok (.slice (some ⟨g, lo, none⟩) wd wd) W := by
  have e1 : ((lo : Int) + (wd : Int)).toNat = lo + wd := by omega
  have hz := Try.sizeOf2 W
  simp [Instr.slice, run_underlying Try.underlying22, Instr.sliceBounds, run_sliceBound, sliced, e1, Addr.add, show (0 : Int) ≤ (lo : Int) + (wd : Int) by omega, show (lo : Int) + (wd : Int) ≤ (T : Int) by omega]
  rw [run_sliceBound W .i64 (lo : Int) (lo + wd) _ (by omega) (by omega)]
  simp only [Result.andThen, Int.toNat_natCast]
  rw [if_neg (by omega), Nat.add_sub_cancel_left]
  by_cases e : lo = 0
  · subst e; rfl
  · rw [if_neg e]

theorem slice_hi (W : World) (g T lo hi wd : Nat) (e : hi = lo + wd) (h : hi ≤ T) (hT : T ≤ 10000) (hw : 0 < wd) :
    (Instr.slice 22 (.slice (some ⟨g, 0, none⟩) T T) (some (.int .i64 (lo : Int))) (some (.int .i64 (hi : Int))) (some (.int .i64 (hi : Int)))).run Try.prog W = .ok (.slice (some ⟨g, lo, none⟩) wd wd) W := by
  subst e
  have := slice_three W g T lo wd h hT hw
  rw [show ((lo + wd : Nat) : Int) = (lo : Int) + (wd : Int) by omega]
  exact this
theorem index_five (x : ByteArray) (n : Nat) (hn : n < x.size) (W : World) :
    (Instr.index 9 (.string x) (.int .i64 (n : Int))).run Try.prog W = .ok (.int .u8 ((x[n]'hn).toNat : Int)) W := by
  rw [run_index_string (h := Try.underlying9), dif_pos ⟨by omega, by omega⟩]
  rfl

/-- The table: rows from k on, and of the row ahead of them the first j places, hold their lengths. -/
def fT (x u : ByteArray) (k j p : Nat) : Nat := if k ≤ p / (u.size + 1) ∨ (p / (u.size + 1) + 1 = k ∧ p % (u.size + 1) < j) then lce x u (p / (u.size + 1)) (p % (u.size + 1)) else 0
def tabL (x u : ByteArray) (k j : Nat) : List Int := (List.range ((x.size + 1) * (u.size + 1))).map fun p => (fT x u k j p : Int)
theorem fT_start (x u : ByteArray) (p : Nat) : fT x u x.size 0 p = 0 := by
  unfold fT
  split
  · rename_i h
    rcases h with h | ⟨_, h⟩
    · exact lce_end x u _ _ (.inl h)
    · omega
  · rfl
theorem fT_done (x u : ByteArray) (p : Nat) : fT x u 0 0 p = lce x u (p / (u.size + 1)) (p % (u.size + 1)) := by unfold fT; rw [if_pos (.inl (Nat.zero_le _))]
theorem fT_row (x u : ByteArray) (k p : Nat) : fT x u (k + 1) u.size p = fT x u k 0 p := by
  unfold fT
  have hm := Nat.mod_lt p (show 0 < u.size + 1 by omega)
  by_cases h1 : k + 1 ≤ p / (u.size + 1)
  · rw [if_pos (.inl h1), if_pos (.inl (by omega))]
  · by_cases h2 : p / (u.size + 1) = k
    · rw [if_pos (show k ≤ p / (u.size + 1) ∨ _ from .inl (by omega))]
      by_cases h3 : p % (u.size + 1) < u.size
      · rw [if_pos (.inr ⟨by omega, h3⟩)]
      · rw [if_neg (by omega), lce_end x u _ _ (.inr (by omega))]
    · rw [if_neg (by omega), if_neg (by omega)]
theorem flat_div (u : ByteArray) (i j : Nat) (hj : j ≤ u.size) : (i * (u.size + 1) + j) / (u.size + 1) = i ∧ (i * (u.size + 1) + j) % (u.size + 1) = j := by
  constructor
  · rw [Nat.add_comm, Nat.add_mul_div_right _ _ (by omega), Nat.div_eq_of_lt (by omega)]; omega
  · rw [Nat.add_comm, Nat.add_mul_mod_self_right, Nat.mod_eq_of_lt (by omega)]
theorem flat_inj (u : ByteArray) (p i j : Nat) (h : p / (u.size + 1) = i) (k : p % (u.size + 1) = j) : p = i * (u.size + 1) + j := by
  have := Nat.div_add_mod p (u.size + 1)
  rw [h, k, Nat.mul_comm] at this
  omega
theorem fT_step (x u : ByteArray) (k j p : Nat) (hj : j < u.size) : fT x u (k + 1) (j + 1) p = if p = k * (u.size + 1) + j then lce x u k j else fT x u (k + 1) j p := by
  by_cases e : p = k * (u.size + 1) + j
  · rw [if_pos e]
    obtain ⟨h1, h2⟩ := flat_div u k j (by omega)
    rw [← e] at h1 h2
    unfold fT
    rw [h1, h2, if_pos (.inr ⟨rfl, by omega⟩)]
  · rw [if_neg e]
    unfold fT
    by_cases h1 : k + 1 ≤ p / (u.size + 1)
    · rw [if_pos (.inl h1), if_pos (.inl h1)]
    · by_cases h2 : p / (u.size + 1) + 1 = k + 1
      · have h3 : p % (u.size + 1) ≠ j := fun h => e (flat_inj u p k j (by omega) h)
        by_cases h4 : p % (u.size + 1) < j
        · rw [if_pos (.inr ⟨h2, by omega⟩), if_pos (.inr ⟨h2, h4⟩)]
        · rw [if_neg (by omega), if_neg (by omega)]
      · rw [if_neg (by omega), if_neg (by omega)]
theorem tabL_len (x u : ByteArray) (k j : Nat) : (tabL x u k j).length = (x.size + 1) * (u.size + 1) := by simp [tabL]
theorem tabL_get (x u : ByteArray) (k j p : Nat) (h : p < (x.size + 1) * (u.size + 1)) : (tabL x u k j)[p]? = some (fT x u k j p : Int) := by simp [tabL, h]
theorem tabL_congr {x u : ByteArray} {k j k' j' : Nat} (h : ∀ p, fT x u k j p = fT x u k' j' p) : tabL x u k j = tabL x u k' j' := by unfold tabL; simp [h]
theorem tabL_set (x u : ByteArray) (k j : Nat) (hj : j < u.size) : ((tabL x u (k + 1) j).map (Value.int .i64)).set (k * (u.size + 1) + j) (.int .i64 (lce x u k j : Int)) = (tabL x u (k + 1) (j + 1)).map (Value.int .i64) := by
  apply List.ext_getElem?
  intro p
  rw [List.getElem?_set]
  by_cases hp : p < (x.size + 1) * (u.size + 1)
  · rw [List.getElem?_map, List.getElem?_map, tabL_get x u (k + 1) (j + 1) p hp, tabL_get x u (k + 1) j p hp, fT_step x u k j p hj]
    by_cases e : k * (u.size + 1) + j = p
    · subst e
      rw [if_pos rfl, if_pos rfl, if_pos (by rw [List.length_map, tabL_len]; exact hp)]
      rfl
    · rw [if_neg e, if_neg (fun e2 => e e2.symm)]
  · rw [List.getElem?_eq_none (l := (tabL x u (k + 1) j).map _) (by rw [List.length_map, tabL_len]; omega), List.getElem?_eq_none (l := (tabL x u (k + 1) (j + 1)).map _) (by rw [List.length_map, tabL_len]; omega)]
    split
    · split
      · rename_i h; rw [List.length_map, tabL_len] at h; omega
      · rfl
    · rfl
theorem tabL_zero (x u : ByteArray) : (tabL x u x.size 0).map (Value.int .i64) = List.replicate ((x.size + 1) * (u.size + 1)) (.int .i64 0) := by
  apply List.ext_getElem?
  intro p
  by_cases hp : p < (x.size + 1) * (u.size + 1)
  · rw [List.getElem?_map, tabL_get x u _ _ p hp, fT_start, List.getElem?_replicate, if_pos hp]; rfl
  · rw [List.getElem?_eq_none (by rw [List.length_map, tabL_len]; omega), List.getElem?_replicate, if_neg hp]
/-- The rows: slices of the one table. -/
def rowsT (g wd n1 k : Nat) : List Value := (List.range n1).map fun a => if a < k then .slice (some ⟨g, a * wd, none⟩) wd wd else .slice none 0 0
theorem rowsT_len (g wd n1 k : Nat) : (rowsT g wd n1 k).length = n1 := by simp [rowsT]
theorem rowsT_get (g wd n1 k a : Nat) (h : a < n1) : (rowsT g wd n1 k)[a]? = some (if a < k then .slice (some ⟨g, a * wd, none⟩) wd wd else .slice none 0 0) := by simp [rowsT, h]
theorem rowsT_set (g wd n1 k : Nat) : (rowsT g wd n1 k).set k (.slice (some ⟨g, k * wd, none⟩) wd wd) = rowsT g wd n1 (k + 1) := by
  apply List.ext_getElem?
  intro a
  rw [List.getElem?_set]
  by_cases ha : a < n1
  · rw [rowsT_get _ _ _ _ _ ha, rowsT_get _ _ _ _ _ ha]
    by_cases e : k = a
    · subst e; rw [if_pos rfl, if_pos (by rw [rowsT_len]; exact ha), if_pos (by omega)]
    · rw [if_neg e]
      by_cases h2 : a < k
      · rw [if_pos h2, if_pos (by omega)]
      · rw [if_neg h2, if_neg (by omega)]
  · rw [List.getElem?_eq_none (l := rowsT g wd n1 k) (by rw [rowsT_len]; omega), List.getElem?_eq_none (l := rowsT g wd n1 (k + 1)) (by rw [rowsT_len]; omega)]
    split
    · split
      · rename_i h; rw [rowsT_len] at h; omega
      · rfl
    · rfl
theorem rowsT_zero (g wd n1 : Nat) : rowsT g wd n1 0 = List.replicate n1 (.slice none 0 0) := by
  apply List.ext_getElem?
  intro a
  by_cases ha : a < n1
  · rw [rowsT_get _ _ _ _ _ ha, List.getElem?_replicate, if_pos ha]; rfl
  · rw [List.getElem?_eq_none (by rw [rowsT_len]; omega), List.getElem?_replicate, if_neg ha]

theorem own_cell {W : World} {B e g n : Nat} {L : List Value} (h : W.ownsRow B e 1 (.slice (some ⟨g, 0, none⟩) n n) n L) {j : Nat} {u : Value} (hj : j < n) (hu : L[j]? = some u) : W.cell? ⟨g, j, none⟩ = some u := by
  rw [h.cellAt j (by omega)]; exact hu
/-- Downwards. -/
def dn : Nat → Int
  | 0 => -1
  | q + 1 => (q : Int)
theorem dn_eq (q : Nat) : (q : Int) - 1 = dn q := by
  cases q with
  | zero => rfl
  | succ n => show ((n + 1 : Nat) : Int) - 1 = (n : Int); omega
abbrev TabC (x u : ByteArray) (W : World) (g T k j : Nat) : Prop := W.ownsRow g 2 1 (.slice (some ⟨g, 0, none⟩) T T) T ((tabL x u k j).map (Value.int .i64))
abbrev RowC (W : World) (g gT wd n1 k : Nat) : Prop := W.ownsRow g 22 1 (.slice (some ⟨g, 0, none⟩) n1 n1) n1 (rowsT gT wd n1 k)
theorem TabC.get {x u : ByteArray} {W : World} {g T k j p : Nat} (h : TabC x u W g T k j) (hT : T = (x.size + 1) * (u.size + 1)) (hp : p < T) : W.cell? ⟨g, p, none⟩ = some (.int .i64 (fT x u k j p : Int)) := own_cell h hp (by rw [List.getElem?_map, tabL_get x u k j p (by omega)]; rfl)
theorem RowC.get {W : World} {g gT wd n1 k a : Nat} (h : RowC W g gT wd n1 k) (ha : a < n1) (hk : a < k) : W.cell? ⟨g, a, none⟩ = some (.slice (some ⟨gT, a * wd, none⟩) wd wd) := own_cell h ha (by rw [rowsT_get _ _ _ _ _ ha, if_pos hk])
theorem TabC.zero {x u : ByteArray} {W : World} {g T : Nat} (h : W.ownsRow g 2 1 (.slice (some ⟨g, 0, none⟩) T T) T (madeCells (Value.int .i64 0).cells (T * 1)).toList) (hT : T = (x.size + 1) * (u.size + 1)) : TabC x u W g T x.size 0 := by
  rw [show (Value.int .i64 0).cells = #[Value.int .i64 0] from rfl, toList_madeCells_one, Nat.mul_one] at h
  unfold TabC
  rw [tabL_zero, ← hT]
  exact h
theorem RowC.zero {W : World} {g gT wd n1 : Nat} (h : W.ownsRow g 22 1 (.slice (some ⟨g, 0, none⟩) n1 n1) n1 (madeCells (Value.slice none 0 0).cells (n1 * 1)).toList) : RowC W g gT wd n1 0 := by
  rw [show (Value.slice none 0 0).cells = #[Value.slice none 0 0] from rfl, toList_madeCells_one, Nat.mul_one] at h
  unfold RowC
  rw [rowsT_zero]
  exact h
theorem TabC.congr {x u : ByteArray} {W : World} {g T k j k' j' : Nat} (h : TabC x u W g T k j) (e : ∀ p, fT x u k j p = fT x u k' j' p) : TabC x u W g T k' j' := by
  unfold TabC
  rw [← tabL_congr e]
  exact h
theorem TabC.put {x u : ByteArray} {W : World} {g T k j : Nat} (h : TabC x u W g T (k + 1) j) (hj : j < u.size) : TabC x u (W.setCell ⟨g, k * (u.size + 1) + j, none⟩ (.int .i64 (lce x u k j : Int))) g T (k + 1) (j + 1) := by
  have := (h.stored (k * (u.size + 1) + j) (.int .i64 (lce x u k j : Int))).1
  rwa [tabL_set x u k j hj] at this
theorem TabC.skip {x u : ByteArray} {W : World} {g T k j : Nat} (h : TabC x u W g T (k + 1) j) (hj : j < u.size) (e : lce x u k j = 0) : TabC x u W g T (k + 1) (j + 1) := h.congr fun p => by
  rw [fT_step x u k j p hj]
  by_cases e2 : p = k * (u.size + 1) + j
  · rw [if_pos e2, e, e2]
    obtain ⟨h1, h2⟩ := flat_div u k j (by omega)
    unfold fT
    rw [h1, h2, if_neg (by omega)]
  · rw [if_neg e2]
theorem RowC.put {W : World} {g gT wd n1 k : Nat} (h : RowC W g gT wd n1 k) : RowC (W.setCell ⟨g, k, none⟩ (.slice (some ⟨gT, k * wd, none⟩) wd wd)) g gT wd n1 (k + 1) := by
  have := (h.stored k (.slice (some ⟨gT, k * wd, none⟩) wd wd)).1
  rwa [rowsT_set] at this
theorem flat_lt {x u : ByteArray} {i j : Nat} (hi : i ≤ x.size) (hj : j ≤ u.size) : i * (u.size + 1) + j < (x.size + 1) * (u.size + 1) := by
  have := Nat.mul_le_mul_right (u.size + 1) (show i + 1 ≤ x.size + 1 by omega)
  have e : (i + 1) * (u.size + 1) = i * (u.size + 1) + (u.size + 1) := Nat.succ_mul _ _
  omega

set_option maxRecDepth 100000 in
set_option maxHeartbeats 4000000 in
theorem commonLengths_any (x u : ByteArray) (w : World) (hx : x.size ≤ 60) (hu : u.size ≤ 60) :
    Calls Try.prog 75 #[.string x, .string u] w fun e w' => ∃ gR gT, e = .returned (.slice (some ⟨gR, 0, none⟩) (x.size + 1) (x.size + 1)) ∧ gR < w'.heap.size ∧ gT < w'.heap.size ∧
      (∀ i, i ≤ x.size → w'.cell? ⟨gR, i, none⟩ = some (.slice (some ⟨gT, i * (u.size + 1), none⟩) (u.size + 1) (u.size + 1))) ∧
      (∀ i j, i ≤ x.size → j ≤ u.size → w'.cell? ⟨gT, i * (u.size + 1) + j, none⟩ = some (.int .i64 (lce x u i j : Int))) ∧ Below w.heap.size w w' := by
  obtain ⟨i0, hi, hz0, hz1, hz2⟩ := info_parts infoI64
  obtain ⟨j0, hj, hy0, hy1, hy2⟩ := info_parts infoSI
  have hmo : Try.prog.follows .mixedOrders = true := by kernel_rfl
  obtain ⟨T, hT⟩ : ∃ T, T = (x.size + 1) * (u.size + 1) := ⟨_, rfl⟩
  have hTI : ((x.size : Int) + 1) * ((u.size : Int) + 1) = (T : Int) := by rw [hT]; simp
  have hTl : T ≤ 3721 := by rw [hT]; exact Nat.mul_le_mul (show x.size + 1 ≤ 61 by omega) (show u.size + 1 ≤ 61 by omega)
  have HTT := Lib.hid hT
  clear hT
  go_enter Try.func75, Try.ntmps75
  go_wp2_with (first
    | (at_make; refine wpList_make_full _ rfl _ _ 22 rfl w.heap.size 2 i0 (.int .i64 0) 1 Try.underlying22 hi hz0 hz1 .i64 .i64 (T : Int) (T : Int) T rfl rfl rfl rfl (by rw [hz2]; omega) (by unfold maxLen; omega) (Nat.le_refl _) ?_; intro w1 hown1 hgrow1)
    | (at_make; refine wpList_make_full _ rfl _ _ 40 rfl w1.heap.size 22 j0 (.slice none 0 0) 1 Try.underlying40 hj hy0 hy1 .i64 .i64 ((x.size : Int) + 1) ((x.size : Int) + 1) (x.size + 1) rfl rfl (by omega) (by omega) (by rw [hy2]; omega) (by unfold maxLen; omega) (Nat.le_refl _) ?_; intro w2 hown2 hgrow2))
  have hT0 : TabC x u w2 w.heap.size T x.size 0 := TabC.zero (own_below hown1 ((Below.refl _ _).grown hgrow2 (Nat.le_refl _) (fun _ e => by cases e))) HTT.out
  have hR0 : RowC w2 w1.heap.size w.heap.size (u.size + 1) (x.size + 1) 0 := RowC.zero hown2
  have hgl : w.heap.size < w1.heap.size := (World.ownsRow.lt hown1 w.heap.size rfl).2
  have hB0 : Below w.heap.size w w2 := ((Below.refl _ _).grown hgrow1 (Nat.le_refl _) (fun _ e => by cases e)).grown hgrow2 (by omega) (fun _ e => by cases e)
  clear hown1 hown2 hgrow1 hgrow2 hi hz0 hz1 hz2 hj hy0 hy1 hy2
  generalize w1.heap.size = gR at *
  go_wp2
  go_loopg [26] (x.size + 1) (fun gg s26 wr => ∃ k : Nat, k + gg = x.size + 1 ∧ s26 = .int .i64 (k : Int) ∧ TabC x u wr w.heap.size T x.size 0 ∧ RowC wr gR w.heap.size (u.size + 1) (x.size + 1) k ∧ Below w.heap.size w wr)
  case atStart => exact ⟨0, by omega, rfl, hT0, hR0, hB0⟩
  case round =>
    clear hT0 hR0 hB0
    obtain ⟨k, hk, rfl, hT, hR, hB⟩ := hrel
    by_cases hpk : k < x.size + 1
    · obtain ⟨gq, rfl⟩ : ∃ q, gk = q + 1 := ⟨gk - 1, by omega⟩
      have hpi : (k : Int) < (x.size : Int) + 1 := by omega
      have fz : wr.frozen? ⟨gR, k, none⟩ = false := hR.frozenAt k
      have ck := own_cell hR hpk (rowsT_get _ _ _ _ _ hpk)
      rw [if_neg (Nat.lt_irrefl k)] at ck
      have hlo : (k : Int) * ((u.size : Int) + 1) = ((k * (u.size + 1) : Nat) : Int) := by simp
      have hhi : ((k : Int) + 1) * ((u.size : Int) + 1) = (((k + 1) * (u.size + 1) : Nat) : Int) := by simp
      have e1 : (k + 1) * (u.size + 1) = k * (u.size + 1) + (u.size + 1) := Nat.succ_mul _ _
      have e2 : (k + 1) * (u.size + 1) ≤ T := by rw [HTT.out]; exact Nat.mul_le_mul_right _ (by omega)
      have e3 : k * (u.size + 1) ≤ T := by omega
      have hsl := fun W => slice_hi W w.heap.size T (k * (u.size + 1)) ((k + 1) * (u.size + 1)) (u.size + 1) e1 e2 (by omega) (by omega)
      have HR2 := Lib.hid hR.put
      have HT2 := Lib.hid (ownsRow_setCell_other hT (a := ⟨gR, k, none⟩) (by simp [Value.ownBlock]; omega) (.slice (some ⟨w.heap.size, k * (u.size + 1), none⟩) (u.size + 1) (u.size + 1)))
      have HB2 := Lib.hid (hB.setCell (p := ⟨gR, k, none⟩) (by show w.heap.size ≤ gR; omega) (.slice (some ⟨w.heap.size, k * (u.size + 1), none⟩) (u.size + 1) (u.size + 1)))
      have HK := Lib.hid hk
      clear hT hR hB hk e1
      generalize (k + 1) * (u.size + 1) = hi at *
      generalize k * (u.size + 1) = lo at *
      have hlo2 : lo ≤ 3721 := by omega
      have hhi2 : hi ≤ 3721 := by omega
      go_wp2
      go_roundg gq
      case measure => omega
      case rel => exact ⟨k + 1, by have := HK.out; omega, by go_num, HT2.out, HR2.out, HB2.out⟩
    · obtain rfl : k = x.size + 1 := by omega
      have hpi : ¬ (((x.size + 1 : Nat) : Int) < (x.size : Int) + 1) := by omega
      obtain ⟨wo, hwo⟩ : ∃ wo : World, wo = wr := ⟨_, rfl⟩
      rw [← hwo] at hT hR hB ⊢
      clear hwo wr hk
      go_wp2
      go_loopg [9] x.size (fun gg s9 wr' => gg ≤ x.size ∧ s9 = .int .i64 (dn gg) ∧ TabC x u wr' w.heap.size T gg 0 ∧ RowC wr' gR w.heap.size (u.size + 1) (x.size + 1) (x.size + 1) ∧ Below w.heap.size w wr')
      case atStart => exact ⟨Nat.le_refl _, by rw [← dn_eq], hT, hR, hB⟩
      case round =>
        clear hT hR hB
        obtain ⟨hq, h9, hT, hR, hB⟩ := hrel
        cases gk with
        | zero =>
          have h9 : _ = Value.int .i64 (-1) := h9
          subst h9
          have HT2 := Lib.hid hT
          have HR2 := Lib.hid hR
          go_wp2
          go_ret
          refine ⟨gR, w.heap.size, rfl, (World.ownsRow.lt HR2.out gR rfl).2, (World.ownsRow.lt HT2.out w.heap.size rfl).2, fun i hi => HR2.out.get (by omega) (by omega), fun i j hi hj => ?_, hB⟩
          have := HT2.out.get HTT.out (show i * (u.size + 1) + j < T by rw [HTT.out]; exact flat_lt hi hj)
          rw [fT_done, (flat_div u i j hj).1, (flat_div u i j hj).2] at this
          exact this
        | succ q =>
          have h9 : _ = Value.int .i64 (q : Int) := h9
          subst h9
          have hq0 : (0 : Int) ≤ (q : Int) := by omega
          have HQ := Lib.hid hq
          clear hq
          obtain ⟨wp, hwp⟩ : ∃ wp : World, wp = wr := ⟨_, rfl⟩
          rw [← hwp] at hT hR hB ⊢
          clear hwp wr
          go_wp2
          go_loopg [55] u.size (fun gg s55 wr' => ∃ j : Nat, j + gg = u.size ∧ s55 = .int .i64 (j : Int) ∧ TabC x u wr' w.heap.size T (q + 1) j ∧ RowC wr' gR w.heap.size (u.size + 1) (x.size + 1) (x.size + 1) ∧ Below w.heap.size w wr')
          case atStart => exact ⟨0, by omega, rfl, hT, hR, hB⟩
          case round =>
            clear hT hR hB
            obtain ⟨j, hj, rfl, hT, hR, hB⟩ := hrel
            have HJ := Lib.hid hj
            by_cases hpj : j < u.size
            · obtain ⟨gj, rfl⟩ : ∃ g, gk = g + 1 := ⟨gk - 1, by omega⟩
              have hqx : q < x.size := by have := HQ.out; omega
              have hji : (j : Int) < (u.size : Int) := by omega
              have hx1 := fun W => index_five x q hqx W
              have hu1 := fun W => index_five u j hpj W
              clear hj
              by_cases he : x[q]'hqx = u[j]'hpj
              · have hd : (((x[q]'hqx).toNat : Int) == ((u[j]'hpj).toNat : Int)) = true := by rw [he]; simp
                have hl := lce_hit hqx hpj he
                have hle := (lce_le x u (x.size - (q + 1)) (q + 1) (j + 1) rfl (by omega) (by omega)).1
                have hf : fT x u (q + 1) j ((q + 1) * (u.size + 1) + (j + 1)) = lce x u (q + 1) (j + 1) := by
                  obtain ⟨h1, h2⟩ := flat_div u (q + 1) (j + 1) (by omega)
                  unfold fT
                  rw [h1, h2, if_pos (.inl (Nat.le_refl _))]
                have hlt1 : (q + 1) * (u.size + 1) + (j + 1) < T := by rw [HTT.out]; exact flat_lt (by omega) (by omega)
                have hlt2 : q * (u.size + 1) + j < T := by rw [HTT.out]; exact flat_lt (by omega) (by omega)
                have HP : Hid (∀ W, TabC x u W w.heap.size T (q + 1) j → RowC W gR w.heap.size (u.size + 1) (x.size + 1) (x.size + 1) → Below w.heap.size w W →
                    W.cell? ⟨gR, q, none⟩ = some (.slice (some ⟨w.heap.size, q * (u.size + 1), none⟩) (u.size + 1) (u.size + 1)) ∧
                    W.cell? ⟨gR, q + 1, none⟩ = some (.slice (some ⟨w.heap.size, (q + 1) * (u.size + 1), none⟩) (u.size + 1) (u.size + 1)) ∧
                    W.cell? ⟨w.heap.size, (q + 1) * (u.size + 1) + (j + 1), none⟩ = some (.int .i64 (lce x u (q + 1) (j + 1) : Int)) ∧
                    W.cell? ⟨w.heap.size, q * (u.size + 1) + j, none⟩ = some (.int .i64 (fT x u (q + 1) j (q * (u.size + 1) + j) : Int)) ∧
                    W.frozen? ⟨w.heap.size, q * (u.size + 1) + j, none⟩ = false ∧
                    Hid (TabC x u (W.setCell ⟨w.heap.size, q * (u.size + 1) + j, none⟩ (.int .i64 ((lce x u (q + 1) (j + 1) : Int) + 1))) w.heap.size T (q + 1) (j + 1)) ∧
                    Hid (RowC (W.setCell ⟨w.heap.size, q * (u.size + 1) + j, none⟩ (.int .i64 ((lce x u (q + 1) (j + 1) : Int) + 1))) gR w.heap.size (u.size + 1) (x.size + 1) (x.size + 1)) ∧
                    Hid (Below w.heap.size w (W.setCell ⟨w.heap.size, q * (u.size + 1) + j, none⟩ (.int .i64 ((lce x u (q + 1) (j + 1) : Int) + 1))))) := Lib.hid fun W hT hR hB => by
                  have hc := hT.get HTT.out hlt1
                  rw [hf] at hc
                  refine ⟨hR.get (by omega) (by omega), hR.get (by omega) (by omega), hc, hT.get HTT.out hlt2, hT.frozenAt _, Lib.hid ?_, Lib.hid ?_, Lib.hid ?_⟩
                  · have := hT.put hpj
                    rwa [hl, show ((lce x u (q + 1) (j + 1) + 1 : Nat) : Int) = (lce x u (q + 1) (j + 1) : Int) + 1 by omega] at this
                  · exact ownsRow_setCell_below hR hgl _
                  · exact hB.setCell (p := ⟨w.heap.size, _, none⟩) (Nat.le_refl _) _
                clear he hl hf
                have hlt3 : q * (u.size + 1) + j ≤ 3721 := by omega
                generalize (q + 1) * (u.size + 1) = hi at *
                generalize q * (u.size + 1) = lo at *
                generalize fT x u (q + 1) j (lo + j) = old at *
                generalize lce x u (q + 1) (j + 1) = c at *
                generalize (x[q]'hqx).toNat = xa at *
                generalize (u[j]'hpj).toNat = ua at *
                go_wp2
                go_quiet (fail)
                have hT1 : TabC x u (wr.drewN nq) w.heap.size T (q + 1) j := own_below hT ((Below.refl _ _).drewN nq)
                have hR1 : RowC (wr.drewN nq) gR w.heap.size (u.size + 1) (x.size + 1) (x.size + 1) := own_below hR ((Below.refl _ _).drewN nq)
                have hB1 := hB.drewN nq
                clear hT hR hB
                generalize wr.drewN nq = wn at *
                obtain ⟨c1, c2, c3, c4, z1, P1, P2, P3⟩ := HP.out wn hT1 hR1 hB1
                have hT2 : TabC x u wn.drew w.heap.size T (q + 1) j := own_below hT1 (Below.refl _ _).drew
                have hR2 : RowC wn.drew gR w.heap.size (u.size + 1) (x.size + 1) (x.size + 1) := own_below hR1 (Below.refl _ _).drew
                have hB2 := hB1.drew
                have HP2 := Lib.hid (HP.out wn.drew hT2 hR2 hB2)
                clear hT1 hR1 hB1 hT2 hR2 hB2 P1 P2 P3 HP c4 z1
                have e3 : (0 : Int) ≤ (q : Int) + 1 := by omega
                have e4 : ((q : Int) + 1).toNat = q + 1 := by omega
                have e5 : (q : Int) + 1 < (x.size : Int) + 1 := by omega
                have e7 : (q : Int) < (x.size : Int) := by omega
                have e6 : (q : Int) < (x.size : Int) + 1 := by omega
                have f3 : (0 : Int) ≤ (j : Int) + 1 := by omega
                have f4 : ((j : Int) + 1).toNat = j + 1 := by omega
                have f5 : (j : Int) + 1 < (u.size : Int) + 1 := by omega
                have f6 : (j : Int) < (u.size : Int) + 1 := by omega
                go_wp2
                have wq1 : IntKind.i64.wrap ((q : Int) + 1) = (q : Int) + 1 := IntWalk.i64_in _ (by omega)
                have wq2 : IntKind.i64.wrap ((j : Int) + 1) = (j : Int) + 1 := IntWalk.i64_in _ (by omega)
                have wq3 : IntKind.i64.wrap ((c : Int) + 1) = (c : Int) + 1 := IntWalk.i64_in _ (by omega)
                go_still_tail 16, hmo
                change wpList _ _ _ _ _ wn.drew
                generalize wn.drew = wz at *
                obtain ⟨d1, d2, d3, d4, z1, P1, P2, P3⟩ := HP2.out
                clear d1 d2 d3 c1 c2 c3 HP2
                go_wp2
                go_roundg gj
                case measure => omega
                case rel => exact ⟨j + 1, by have := HJ.out; omega, by go_num, P1.out, P2.out, P3.out⟩
              · have hd : (((x[q]'hqx).toNat : Int) == ((u[j]'hpj).toNat : Int)) = false := by
                  rw [beq_eq_false_iff_ne]; intro h; exact he (byte_eq_iff.1 h)
                have HT2 := Lib.hid (hT.skip hpj (lce_miss hqx hpj he))
                have HT3 := Lib.hid fun n => own_below HT2.out ((Below.refl _ _).drewN n)
                have HR2 := Lib.hid fun n => own_below hR ((Below.refl _ _).drewN n)
                have HB2 := Lib.hid fun n => hB.drewN n
                clear hT hR hB he HT2
                generalize (x[q]'hqx).toNat = xa at *
                generalize (u[j]'hpj).toNat = ua at *
                go_wp2
                go_quiet (fail)
                go_wp2
                go_roundg gj
                case measure => omega
                case rel => exact ⟨j + 1, by have := HJ.out; omega, by go_num, HT3.out _, HR2.out _, HB2.out _⟩
            · obtain rfl : j = u.size := by omega
              have hji : ¬ (u.size : Int) < (u.size : Int) := by omega
              have HT2 := Lib.hid (hT.congr (fT_row x u q))
              have HR2 := Lib.hid hR
              have HB2 := Lib.hid hB
              clear hT hR hB hj
              go_wp2
              go_roundg q
              case measure => omega
              case rel => exact ⟨by have := HQ.out; omega, by have := HQ.out; rw [← dn_eq, IntWalk.wrap64_in _ (by omega)], HT2.out, HR2.out, HB2.out⟩

end Go.Proofs.Ytbhgghajbdlfkaa
