/- The model's draws of patterns; words that avoid patterns, in the model; what is asked of them. -/
import Derived.WalkKit
import Derived.Test.YtfipbnognjepkaaGreatDoorInts
import Derived.RegionTactic
import Derived.Deep.RegionWith
import Derived.Deep.LoopGhost
import Derived.Outline
import Derived.Test.YtfipbnognjepkaaGreatDoorPlain
import Derived.Test.YtfipbnognjepkaaGreatDoorPerPlain
import Derived.Test.YtfipbnognjepkaaGreatDoorLetter
import Derived.Test.YtfipbnognjepkaaGreatDoorOwn
import Derived.BigRegion
import Derived.RangeFuncBox
import Derived.Deep.QuietTactic
import Derived.BigQuiet
import Derived.Test.YtfipbnognjepkaaGreatDoorPatPlain
import Derived.Test.YtfipbnognjepkaaGreatDoorStrs
import Derived.Test.YtfipbnognjepkaaGreatDoorAvoPlain
import Derived.Test.YtfipbnognjepkaaGreatDoorAvoC
import Derived.Test.YtfipbnognjepkaaGreatDoorAvoF
import Derived.Test.YtfipbnognjepkaaGreatDoorAvoL
import Derived.Test.YtfipbnognjepkaaGreatDoorUnaS
import Derived.Test.YtfipbnognjepkaaGreatDoorPatT

/-! ### IsRow -/
namespace Go.Proofs.YtfipbnognjepkaaGreatDoor
set_option linter.unusedVariables false
open Go.RowKit
/-- It is nil; or it leads to a row of 'cap' cells, the numbers 'zs' (the first 'len' are its elements), each fitting its kind. -/
def IsRow (k : IntKind) (w : World) (a : Option Addr) (len cap : Nat) (zs : List Int) : Prop :=
  (a = none ∧ len = 0 ∧ cap = 0 ∧ zs = []) ∨
  ∃ x, a = some x ∧ len ≤ cap ∧ cap ≤ maxLen ∧ zs.length = cap ∧ (∀ i, i < zs.length → w.cell? (x.add i) = some (.int k (zs.getD i 0))) ∧ ∀ n ∈ zs, (Lit.int k n).wf = true
theorem IsRow.below {k : IntKind} {w w' : World} {a : Option Addr} {len cap : Nat} {zs : List Int} (h : IsRow k w a len cap zs) (b : Below w.heap.size w w') : IsRow k w' a len cap zs := by
  rcases h with h | ⟨x, h1, h2, h3, h4, h5, h6⟩
  · exact .inl h
  · exact .inr ⟨x, h1, h2, h3, h4, fun i hi => by rw [b.cell (World.block_lt_of_cell? _ _ (h5 i hi))]; exact h5 i hi, h6⟩
theorem IsRow.len_le {k : IntKind} {w : World} {a : Option Addr} {len cap : Nat} {zs : List Int} (h : IsRow k w a len cap zs) : len ≤ 9223372036854775807 := by
  rcases h with ⟨_, h, _⟩ | ⟨x, h1, h2, h3, _⟩
  · omega
  · unfold maxLen at h3; omega
end Go.Proofs.YtfipbnognjepkaaGreatDoor

/-! ### Src -/
namespace Go.Proofs.YtfipbnognjepkaaGreatDoor
set_option linter.unusedVariables false
set_option linter.unusedSimpArgs false
open Go.RowKit

/-- A source of draws in a block of the call's own: a row of bytes that came in, a place in it, a number. -/
def Src (w0 W : World) (b : Nat) : Prop := ∃ (a : Option Addr) (len cap : Nat) (zs : List Int) (p : Nat) (h : Int),
  W.heap[b]? = some (.cells #[.slice a len cap, .int .i64 (p : Int), .int .u64 h] 125) ∧ IsRow .u8 w0 a len cap zs ∧ p ≤ len ∧ len ≤ 1048576 ∧ 0 ≤ h ∧ h < 18446744073709551616 ∧ w0.heap.size ≤ b

theorem wrap_u64 (y : Int) : IntKind.u64.wrap y = y % 18446744073709551616 := by
  unfold IntKind.wrap
  simp [show IntKind.u64.signed = false from rfl, show IntKind.u64.bits = 64 from rfl]
theorem wrap_in (y : Int) : 0 ≤ IntKind.u64.wrap y ∧ IntKind.u64.wrap y < 18446744073709551616 := by
  rw [wrap_u64]
  omega
theorem and_bound (y : Int) : 0 ≤ wrap64 (bits .and .u64 y 16777215) ∧ wrap64 (bits .and .u64 y 16777215) ≤ 16777215 := by
  have h : bits .and .u64 y 16777215 = IntKind.u64.wrap ((BitVec.ofInt 64 y &&& BitVec.ofInt 64 16777215).toNat : Int) := rfl
  have h2 : (BitVec.ofInt 64 y &&& BitVec.ofInt 64 16777215).toNat ≤ 16777215 := by
    rw [BitVec.toNat_and]
    exact Nat.le_trans Nat.and_le_right (by decide)
  rw [h, wrap_u64]
  unfold wrap64
  omega
/-- The three cells of a source. -/
theorem src_cells {W : World} {b : Nat} {x y z : Value} {t : TypeId} (hb : W.heap[b]? = some (.cells #[x, y, z] t)) :
    W.cell? ⟨b, 0, none⟩ = some x ∧ W.cell? ⟨b, 1, none⟩ = some y ∧ W.cell? ⟨b, 2, none⟩ = some z ∧ W.frozen? ⟨b, 0, none⟩ = false ∧ W.frozen? ⟨b, 1, none⟩ = false ∧ W.frozen? ⟨b, 2, none⟩ = false := by
  simp [World.cell?, World.frozen?, hb]
theorem src_set2 {W : World} {b : Nat} {x y z : Value} {t : TypeId} (hb : W.heap[b]? = some (.cells #[x, y, z] t)) (v : Value) : (W.setCell ⟨b, 2, none⟩ v).heap[b]? = some (.cells #[x, y, v] t) := by
  obtain ⟨hlt, hk⟩ := Array.getElem?_eq_some_iff.1 hb
  show (W.heap.modify b _)[b]? = _
  rw [Array.getElem?_eq_getElem (by rw [Array.size_modify]; exact hlt), Array.getElem_modify_self, hk]
  rfl
theorem src_set1 {W : World} {b : Nat} {x y z : Value} {t : TypeId} (hb : W.heap[b]? = some (.cells #[x, y, z] t)) (v : Value) : (W.setCell ⟨b, 1, none⟩ v).heap[b]? = some (.cells #[x, v, z] t) := by
  obtain ⟨hlt, hk⟩ := Array.getElem?_eq_some_iff.1 hb
  show (W.heap.modify b _)[b]? = _
  rw [Array.getElem?_eq_getElem (by rw [Array.size_modify]; exact hlt), Array.getElem_modify_self, hk]
  rfl
theorem grown_set0 {w w' : World} {g : Nat} (h : w.grownBy w' (some g)) (j : Nat) (u : Value) : w.grownBy (w'.setCell ⟨g, j, none⟩ u) (some g) := grown_set h j u
theorem grown_drewN {w w' : World} {r : Option Nat} (h : w.grownBy w' r) (n : Nat) : w.grownBy (w'.drewN n) r := ⟨h.os, h.tape, h.output, h.size, h.block⟩

set_option maxRecDepth 100000 in
set_option maxHeartbeats 1000000 in
theorem l01Next_any (w0 W : World) (b : Nat) (n : Int) (hS : Src w0 W b) (hB : Below w0.heap.size w0 W) (hn : n ≤ 4611686018427387904) (hn2 : -4611686018427387905 ≤ n) :
    Calls Tryz.prog 115 #[.pointer (some ⟨b, 0, none⟩), .int .i64 n] W fun e W' => ∃ v : Int, e = .returned (.int .i64 v) ∧ (n < 1 → v = 0) ∧ (1 ≤ n → 0 ≤ v ∧ v < n) ∧ Src w0 W' b ∧ W.grownBy W' (some b) := by
  by_cases h1 : n < 1
  · have HS := Lib.hid hS
    clear hS
    go_enter Tryz.func115, Tryz.ntmps115
    go_wp2
    go_ret
    exact ⟨0, rfl, fun _ => rfl, fun h => by omega, HS.out, grown_refl _ _⟩
  · obtain ⟨a, len, cap, zs, p, h, hb, hR, hp, hl, h0, h64, hwb⟩ := hS
    have c0 : W.cell? ⟨b, 0, none⟩ = some (.slice a len cap) := by simp [World.cell?, hb]
    have c1 : W.cell? ⟨b, 1, none⟩ = some (.int .i64 (p : Int)) := by simp [World.cell?, hb]
    have c2 : W.cell? ⟨b, 2, none⟩ = some (.int .u64 h) := by simp [World.cell?, hb]
    have f1 : W.frozen? ⟨b, 1, none⟩ = false := by simp [World.frozen?, hb]
    have f2 : W.frozen? ⟨b, 2, none⟩ = false := by simp [World.frozen?, hb]
    have hw1 := wrap_in (IntKind.u64.wrap (h * 6364136223846793005) + 1442695040888963407)
    have hbd := and_bound (IntKind.u64.wrap (IntKind.u64.wrap (h * 6364136223846793005) + 1442695040888963407) / 8589934592)
    by_cases hpl : p < len
    · obtain ⟨y, rfl, hz1, hz2, hcell, hwf⟩ : ∃ y, a = some y ∧ p < cap ∧ cap ≤ maxLen ∧ w0.cell? (y.add p) = some (.int .u8 (zs.getD p 0)) ∧ (0 ≤ zs.getD p 0 ∧ zs.getD p 0 ≤ 255) := by
        rcases hR with ⟨_, h2, _⟩ | ⟨y, h2, h3, h4, h5, h6, h7⟩
        · omega
        · refine ⟨y, h2, by omega, h4, h6 p (by omega), ?_⟩
          have hm := h7 (zs.getD p 0) (by rw [List.getD_eq_getElem?_getD, List.getElem?_eq_getElem (by omega)]; exact List.getElem_mem _)
          have : (IntKind.u8.min ≤ zs.getD p 0 ∧ zs.getD p 0 ≤ IntKind.u8.max) := by simpa [Lit.wf] using hm
          exact this
      have HR := Lib.hid hR
      clear hR
      generalize zs.getD p 0 = z at *
      go_enter Tryz.func115, Tryz.ntmps115
      go_wp2
      generalize wrap64 (bits .and .u64 (IntKind.u64.wrap (IntKind.u64.wrap (h * 6364136223846793005) + 1442695040888963407) / 8589934592) 16777215) = x at hbd ⊢
      generalize hh : IntKind.u64.wrap (IntKind.u64.wrap (h * 6364136223846793005) + 1442695040888963407) = h2 at hw1 ⊢
      have hb2 := src_set2 hb (.int .u64 h2)
      have hg2 := grown_set (grown_refl W (some b)) 2 (.int .u64 h2)
      have hB2 := hB.grown hg2 hB.size (fun k e => by cases e; exact hwb)
      have hzc : (W.setCell ⟨b, 2, none⟩ (.int .u64 h2)).cell? (y.add p) = some (.int .u8 z) := by rw [hB2.cell (World.block_lt_of_cell? _ _ hcell)]; exact hcell
      clear c0 c1 c2 f1 f2 hb hcell
      generalize W.setCell ⟨b, 2, none⟩ (.int .u64 h2) = W1 at hb2 hg2 hB2 hzc ⊢
      obtain ⟨c0, c1, c2, f0, f1, f2⟩ := src_cells hb2
      have hpl2 : (p : Int) < (len : Int) := by omega
      go_quiet (fail)
      go_wp2
      go_quiet (fail)
      go_wp2
      go_ret
      exact ⟨(x + z) % n, rfl, fun h => by omega, fun _ => ⟨Int.emod_nonneg _ (by omega), Int.emod_lt_of_pos _ (by omega)⟩, ⟨some y, len, cap, zs, p + 1, h2, by rw [show ((p + 1 : Nat) : Int) = (p : Int) + 1 by omega]; exact src_set1 hb2 _, HR.out, by omega, hl, hw1.1, hw1.2, hwb⟩, grown_set (grown_drewN hg2 _) 1 _⟩
    · go_enter Tryz.func115, Tryz.ntmps115
      go_wp2
      generalize wrap64 (bits .and .u64 (IntKind.u64.wrap (IntKind.u64.wrap (h * 6364136223846793005) + 1442695040888963407) / 8589934592) 16777215) = x at hbd ⊢
      generalize hh : IntKind.u64.wrap (IntKind.u64.wrap (h * 6364136223846793005) + 1442695040888963407) = h2 at hw1 ⊢
      have hb2 := src_set2 hb (.int .u64 h2)
      have hg2 := grown_set (grown_refl W (some b)) 2 (.int .u64 h2)
      clear c0 c1 c2 f1 f2 hb
      generalize W.setCell ⟨b, 2, none⟩ (.int .u64 h2) = W1 at hb2 hg2 ⊢
      obtain ⟨c0, c1, c2, f0, f1, f2⟩ := src_cells hb2
      have hpl2 : ¬ (p : Int) < (len : Int) := by omega
      go_quiet (fail)
      go_wp2
      go_ret
      exact ⟨x % n, rfl, fun h => by omega, ⟨Int.emod_nonneg _ (by omega), Int.emod_lt_of_pos _ (by omega)⟩, ⟨a, len, cap, zs, p, h2, hb2, hR, hp, hl, hw1.1, hw1.2, hwb⟩, grown_drewN hg2 _⟩

end Go.Proofs.YtfipbnognjepkaaGreatDoor

/-! ### PlacesPlain -/
namespace Go.Proofs.YtfipbnognjepkaaGreatDoor
set_option linter.unusedVariables false
set_option linter.unusedSimpArgs false
open Go.RowKit

/-- The places, among the numbers told, at which u stands in x. -/
def posOf (x u : ByteArray) (pre : List Nat) : List Int := (pre.filter fun i => decide (x.extract i (i + u.size) = u)).map Int.ofNat
theorem posOf_hit (x u : ByteArray) (pre : List Nat) {i : Nat} (h : x.extract i (i + u.size) = u) : posOf x u (pre ++ [i]) = posOf x u pre ++ [(i : Int)] := by simp [posOf, h]
theorem posOf_miss (x u : ByteArray) (pre : List Nat) {i : Nat} (h : ¬ x.extract i (i + u.size) = u) : posOf x u (pre ++ [i]) = posOf x u pre := by simp [posOf, h]
theorem posOf_len (x u : ByteArray) (pre : List Nat) : (posOf x u pre).length ≤ pre.length := by
  unfold posOf; rw [List.length_map]; exact List.length_filter_le _ _
theorem posOf_nil (x u : ByteArray) : posOf x u [] = [] := rfl
theorem teq_yes {a b : ByteArray} (h : a = b) : (a.toList == b.toList) = true := by rw [h]; exact beq_self_eq_true _
theorem teq_no {a b : ByteArray} (h : ¬ a = b) : (a.toList == b.toList) = false := by
  apply Bool.eq_false_iff.2
  intro h1
  apply h
  have h2 := eq_of_beq h1
  rw [ByteArray.toList_eq, ByteArray.toList_eq] at h2
  have h3 : a.data = b.data := by rw [← Array.toList_inj]; exact h2
  cases a; cases b; simp_all
def placesR (x u : ByteArray) : List Int × Int := if ¬ (IsW x ∧ IsW u) then ([], 1) else (posOf x u (List.range (x.size + 1 - u.size)), 0)
theorem placesR_bad {x u : ByteArray} (h : ¬ (IsW x ∧ IsW u)) : placesR x u = ([], 1) := if_pos h
theorem placesR_ok {x u : ByteArray} (h : IsW x ∧ IsW u) : placesR x u = (posOf x u (List.range (x.size + 1 - u.size)), 0) := by unfold placesR; rw [if_neg (not_not_intro h)]
theorem placesR_len (x u : ByteArray) : (placesR x u).1.length ≤ 4096 := by
  by_cases h : IsW x ∧ IsW u
  · rw [placesR_ok h]
    have h1 := h.1.size
    have h2 := posOf_len x u (List.range (x.size + 1 - u.size))
    rw [List.length_range] at h2
    show (posOf x u (List.range (x.size + 1 - u.size))).length ≤ 4096
    omega
  · rw [placesR_bad h]; decide
theorem map_snoc (L : List Int) (z : Int) : L.map (Value.int .i64) ++ [Value.int .i64 z] = (L ++ [z]).map (Value.int .i64) := by rw [List.map_append]; rfl

end Go.Proofs.YtfipbnognjepkaaGreatDoor

/-! ### Pers -/
namespace Go.Proofs.YtfipbnognjepkaaGreatDoor
set_option linter.unusedVariables false
set_option linter.unusedSimpArgs false
open Go.RowKit

theorem slice_to (x : ByteArray) (z : Int) (n : Nat) (hz : z = n) (h : n ≤ x.size) (W : World) :
    (Instr.slice 9 (.string x) none (some (.int .i64 z)) none).run Tryz.prog W = .ok (.string (x.extract 0 n)) W := by
  subst hz
  have := run_slice_string_h (P := Tryz.prog) W 9 x Tryz.underlying9 .i64 (n : Int) (by omega) (by omega)
  simpa using this

theorem slice_from (x : ByteArray) (z : Int) (n : Nat) (hz : z = n) (h : n ≤ x.size) (W : World) :
    (Instr.slice 9 (.string x) (some (.int .i64 z)) none none).run Tryz.prog W = .ok (.string (x.extract n x.size)) W := by
  subst hz
  have := run_slice_string_l (P := Tryz.prog) W 9 x Tryz.underlying9 .i64 (n : Int) (by omega) (by omega)
  simpa using this

end Go.Proofs.YtfipbnognjepkaaGreatDoor

/-! ### Draw -/
namespace Go.Proofs.YtfipbnognjepkaaGreatDoor
set_option linter.unusedVariables false
set_option linter.unusedSimpArgs false
open Go.RowKit

theorem Src.lt {w0 W : World} {b : Nat} (h : Src w0 W b) : b < W.heap.size := by
  obtain ⟨_, _, _, _, _, _, hb, _⟩ := h
  exact (Array.getElem?_eq_some_iff.1 hb).1
theorem Src.ge {w0 W : World} {b : Nat} (h : Src w0 W b) : w0.heap.size ≤ b := by
  obtain ⟨_, _, _, _, _, _, _, _, _, _, _, _, h⟩ := h
  exact h
theorem Src.below {w0 W W' : World} {b : Nat} (h : Src w0 W b) (k : Below W.heap.size W W') : Src w0 W' b := by
  have hl := h.lt
  obtain ⟨a, len, cap, zs, p, q, hb, r⟩ := h
  exact ⟨a, len, cap, zs, p, q, by rw [k.block b hl]; exact hb, r⟩
theorem grown_of_below {W W' : World} (k : Below W.heap.size W W') (r : Option Nat) : W.grownBy W' r := ⟨k.os, k.tape, k.output, k.size, fun j hj _ => k.block j hj⟩
theorem grown_trans {A B C : World} {r : Option Nat} (h : A.grownBy B r) (k : B.grownBy C r) : A.grownBy C r :=
  ⟨k.os.trans h.os, k.tape.trans h.tape, k.output.trans h.output, Nat.le_trans h.size k.size, fun j hj hne => (k.block j (Nat.lt_of_lt_of_le hj h.size) hne).trans (h.block j hj hne)⟩
theorem below_src {w0 W W' : World} {b : Nat} (hB : Below w0.heap.size w0 W) (hb : w0.heap.size ≤ b) (g : W.grownBy W' (some b)) : Below w0.heap.size w0 W' :=
  hB.grown g hB.size (fun k e => by cases e; exact hb)

theorem grown_cell {W W1 : World} {r : Option Nat} (g : W.grownBy W1 r) {p : Addr} (hp : p.block < W.heap.size) (hne : some p.block ≠ r) : W1.cell? p = W.cell? p := by
  unfold World.cell?
  rw [g.block _ hp hne]
/-- What a drawing function that hands back a text comes to: some text of at most N bytes. -/
def DrawnT (N : Nat) (w0 W : World) (b : Nat) (e : Ending) (W' : World) : Prop := ∃ x : ByteArray, e = .returned (.string x) ∧ x.size ≤ N ∧ Src w0 W' b ∧ W.grownBy W' (some b)
def DrawnI (lo hi : Int) (w0 W : World) (b : Nat) (e : Ending) (W' : World) : Prop := ∃ v : Int, e = .returned (.int .i64 v) ∧ lo ≤ v ∧ v ≤ hi ∧ Src w0 W' b ∧ W.grownBy W' (some b)

/-- The next number. -/
theorem l01Next_i (w0 W : World) (b : Nat) (n : Int) (hS : Src w0 W b) (hB : Below w0.heap.size w0 W) (h1 : 1 ≤ n) (hn : n ≤ 4611686018427387904) :
    Calls Tryz.prog 115 #[.pointer (some ⟨b, 0, none⟩), .int .i64 n] W (DrawnI 0 (n - 1) w0 W b) := by
  refine (l01Next_any w0 W b n hS hB hn (by omega)).mono ?_
  rintro e W' ⟨v, rfl, _, h2, h3, h4⟩
  have h5 := h2 h1
  exact ⟨v, rfl, h5.1, by omega, h3, h4⟩
theorem l01Next_0 (w0 W : World) (b : Nat) (n : Int) (hS : Src w0 W b) (hB : Below w0.heap.size w0 W) (h1 : 0 ≤ n) (hn : n ≤ 4611686018427387904) :
    Calls Tryz.prog 115 #[.pointer (some ⟨b, 0, none⟩), .int .i64 n] W (DrawnI 0 n w0 W b) := by
  refine (l01Next_any w0 W b n hS hB hn (by omega)).mono ?_
  rintro e W' ⟨v, rfl, h1', h2, h3, h4⟩
  refine ⟨v, rfl, ?_, ?_, h3, h4⟩
  · by_cases h : n < 1
    · rw [h1' h]; exact Int.le_refl _
    · exact (h2 (by omega)).1
  · by_cases h : n < 1
    · rw [h1' h]; omega
    · have := (h2 (by omega)).2; omega

theorem cells_new_ints (W : World) (xs : List Int) (t : TypeId) : ∀ j (h : j < xs.length), (W.alloc (.cells (xs.map (Value.int .i64)).toArray t)).cell? ⟨W.heap.size, j, none⟩ = some (.int .i64 (xs[j]'h)) := by
  intro j h
  rw [World.cell?_alloc_new]
  simp [h]

set_option maxRecDepth 100000 in
theorem l01Pick_any (w0 W : World) (b g : Nat) (xs : List Int) (hS : Src w0 W b) (hB : Below w0.heap.size w0 W) (hg : g < W.heap.size) (hgb : g ≠ b) (h0 : 0 < xs.length) (hn : xs.length ≤ 60)
    (hc : ∀ j (h : j < xs.length), W.cell? ⟨g, j, none⟩ = some (.int .i64 (xs[j]'h))) :
    Calls Tryz.prog 51 #[.pointer (some ⟨b, 0, none⟩), .slice (some ⟨g, 0, none⟩) xs.length xs.length] W fun e W' => ∃ v : Int, e = .returned (.int .i64 v) ∧ v ∈ xs ∧ Src w0 W' b ∧ W.grownBy W' (some b) := by
  have CN := Lib.hid (l01Next_i w0 W b xs.length hS hB (by omega) (by omega))
  have HC := Lib.hid hc
  clear hc hS
  go_enter Tryz.func51, Tryz.ntmps51
  go_wp2_with fail
  refine CN.out.mono ?_
  rintro e W1 ⟨v, rfl, v0, v1, s1, g1⟩
  obtain ⟨m, rfl⟩ := Int.eq_ofNat_of_zero_le v0
  have hm : m < xs.length := by omega
  have k1 : W1.cell? ⟨g, m, none⟩ = some (.int .i64 (xs[m]'hm)) := by
    rw [grown_cell g1 (p := ⟨g, m, none⟩) hg (fun e => hgb (Option.some.inj e))]; exact HC.out m hm
  have HM := Lib.hid (List.getElem_mem hm)
  generalize xs[m]'hm = z at k1 HM
  go_wp2
  go_ret
  exact ⟨z, rfl, HM.out, s1, g1⟩

set_option maxRecDepth 100000 in
set_option maxHeartbeats 1000000 in
theorem l01DrawOf_any (w0 W : World) (b : Nat) (n k : Int) (hS : Src w0 W b) (hB : Below w0.heap.size w0 W) (hn : n ≤ 100) (hn0 : 0 ≤ n) (hk1 : 1 ≤ k) (hk5 : k ≤ 5) :
    Calls Tryz.prog 114 #[.pointer (some ⟨b, 0, none⟩), .int .i64 n, .int .i64 k] W fun e W' => ∃ x : ByteArray, e = .returned (.string x) ∧ (x.size : Int) = n ∧ Src w0 W' b ∧ W.grownBy W' (some b) := by
  have HB0 := hS.ge
  obtain ⟨N, rfl⟩ := Int.eq_ofNat_of_zero_le hn0
  go_enter Tryz.func114, Tryz.ntmps114
  go_wp2
  go_loopg [7, 8] N (fun g s7 s8 wr => ∃ (j : Nat) (x : ByteArray), j + g = N ∧ x.size = j ∧ s7 = .string x ∧ s8 = .int .i64 (j : Int) ∧ Src w0 wr b ∧ W.grownBy wr (some b))
  case atStart => exact ⟨0, ⟨#[]⟩, by omega, rfl, rfl, rfl, hS, grown_refl _ _⟩
  case round =>
    clear hS
    obtain ⟨j, x, hj, hx, rfl, rfl, hS, hG⟩ := hrel
    by_cases hp : j < N
    · obtain ⟨g, rfl⟩ : ∃ g, gk = g + 1 := ⟨gk - 1, by omega⟩
      have hB1 := below_src hB HB0 hG
      have CN := Lib.hid (l01Next_i w0 wr b k hS hB1 hk1 (by omega))
      clear hS
      go_wp2_with fail
      refine CN.out.mono ?_
      rintro e W1 ⟨v, rfl, v0, v1, s1, g1⟩
      go_wp2_with fail
      refine (l01Letter_any v _ v0 (by omega)).mono ?_
      rintro e W2 ⟨rfl, b2⟩
      have e1 : (⟨#[letB v]⟩ : ByteArray).size = 1 := rfl
      generalize (⟨#[letB v]⟩ : ByteArray) = t at *
      have hsum : ∀ W, (Op.stringOp .add x t).run Tryz.prog W = .ok (.string (x ++ t)) W := fun W => run_string_add_sum W x t (by omega)
      have s2 := s1.below b2
      have g2 := grown_trans (grown_trans hG g1) (grown_of_below b2 (some b))
      have hz : (x ++ t).size = j + 1 := by rw [ByteArray.size_append]; omega
      go_wp2_with fail
      go_roundg g
      case measure => omega
      case rel => exact ⟨j + 1, x ++ t, by omega, hz, rfl, by go_num, s2, g2⟩
    · have hN : Hid (j = N) := Lib.hid (by omega)
      go_wp2
      go_ret
      exact ⟨x, rfl, by have := hN.out; omega, hS, hG⟩

set_option maxRecDepth 100000 in
set_option maxHeartbeats 1000000 in
theorem l01Small_any (w0 W : World) (b : Nat) (hS : Src w0 W b) (hB : Below w0.heap.size w0 W) :
    Calls Tryz.prog 175 #[.pointer (some ⟨b, 0, none⟩)] W (DrawnT 10 w0 W b) := by
  have HB0 := hS.ge
  have CN := Lib.hid (l01Next_i w0 W b 11 hS hB (by omega) (by omega))
  clear hS
  go_enter Tryz.func175, Tryz.ntmps175
  go_wp2_with fail
  refine CN.out.mono ?_
  rintro e W1 ⟨v, rfl, v0, v1, s1, g1⟩
  have hB1 := below_src hB HB0 g1
  have hbl := s1.lt
  go_wp2_with fail
  refine (l01Pick_any w0 _ b _ [1, 2, 2, 2, 3, 5] (s1.below (Below.new _ _)) (hB1.alloc hB1.size _) (by simp) (by omega) (by decide) (by decide) (cells_new_ints W1 [1, 2, 2, 2, 3, 5] _)).mono ?_
  rintro e W2 ⟨k, rfl, hk, s2, g2⟩
  have hB2 := below_src (hB1.alloc hB1.size _) HB0 g2
  have hk2 : 1 ≤ k ∧ k ≤ 5 := by simp at hk; omega
  have g3 := grown_trans g1 (grown_trans (grown_of_below (Below.new W1 _) (some b)) g2)
  clear hk
  go_wp2_with fail
  refine (l01DrawOf_any w0 _ b v k s2 hB2 (by omega) v0 hk2.1 hk2.2).mono ?_
  rintro e W3 ⟨x, rfl, hx, s3, g4⟩
  go_wp2_with fail
  go_ret
  exact ⟨x, rfl, by omega, s3, grown_trans g3 g4⟩

end Go.Proofs.YtfipbnognjepkaaGreatDoor

/-! ### Draw2 -/
namespace Go.Proofs.YtfipbnognjepkaaGreatDoor
set_option linter.unusedVariables false
set_option linter.unusedSimpArgs false
open Go.RowKit

set_option maxRecDepth 100000 in
set_option maxHeartbeats 2000000 in
theorem l01From_any (a : Option Addr) (len cap : Nat) (zs : List Int) (w : World) (h : IsRow .u8 w a len cap zs) (hl : len ≤ 1048576) :
    Calls Tryz.prog 48 #[.slice a len cap] w fun e w' => e = .returned (.pointer (some ⟨w.heap.size, 0, none⟩)) ∧ Src w w' w.heap.size ∧ Below w.heap.size w w' := by
  have HR := Lib.hid h
  have hby : ∀ j, j < len → ∃ y z, a = some y ∧ j < cap ∧ w.cell? (y.add j) = some (.int .u8 z) ∧ 0 ≤ z ∧ z ≤ 255 := by
    intro j hj
    rcases h with ⟨_, h2, _⟩ | ⟨y, h2, h3, h4, h5, h6, h7⟩
    · omega
    · have hm := h7 (zs.getD j 0) (by rw [List.getD_eq_getElem?_getD, List.getElem?_eq_getElem (by omega)]; exact List.getElem_mem _)
      have : (IntKind.u8.min ≤ zs.getD j 0 ∧ zs.getD j 0 ≤ IntKind.u8.max) := by simpa [Lit.wf] using hm
      exact ⟨y, _, h2, by omega, h6 j (by omega), this.1, this.2⟩
  have HY := Lib.hid hby
  clear h hby
  go_enter Tryz.func48, Tryz.ntmps48
  go_wp2
  go_loopg [4] len (fun g s4 wr => ∃ (j : Nat) (q : Int), j + g = len ∧ s4 = .int .i64 (j : Int) ∧ wr.heap[w.heap.size]? = some (.cells #[.slice a len cap, .int .i64 0, .int .u64 q] 125) ∧ 0 ≤ q ∧ q < 18446744073709551616 ∧ Below w.heap.size w wr)
  case atStart =>
    refine ⟨0, _, by omega, rfl, World.alloc_heap_new w _, ?_, ?_, Below.new _ _⟩
    · omega
    · omega
  case round =>
    obtain ⟨j, q, hj, rfl, hb, q0, q1, hB⟩ := hrel
    by_cases hp : j < len
    · by_cases hp2 : (j : Int) < 4096
      · obtain ⟨g, rfl⟩ : ∃ g, gk = g + 1 := ⟨gk - 1, by omega⟩
        obtain ⟨y, z, rfl, hjc, hcell, z0, z1⟩ := HY.out j hp
        have hzc : wr.cell? (y.add j) = some (.int .u8 z) := by rw [hB.cell (World.block_lt_of_cell? _ _ hcell)]; exact hcell
        have hwi := wrap_in (IntKind.u64.wrap (IntKind.u64.wrap (q * 1099511628211) + z) + 211)
        obtain ⟨c0, c1, c2, f0, f1, f2⟩ := src_cells hb
        have hpl : (j : Int) < (len : Int) := by omega
        go_wp2
        go_region
        have hb2 := src_set2 hb (.int .u64 (IntKind.u64.wrap (IntKind.u64.wrap (IntKind.u64.wrap (q * 1099511628211) + z) + 211)))
        have hB2 : Below w.heap.size w (wr.setCell ⟨w.heap.size, 2, none⟩ (.int .u64 (IntKind.u64.wrap (IntKind.u64.wrap (IntKind.u64.wrap (q * 1099511628211) + z) + 211)))) := hB.setCell (p := ⟨w.heap.size, 2, none⟩) (Nat.le_refl _) _
        go_wp2
        go_roundg g
        case measure => omega
        case rel => exact ⟨j + 1, _, by omega, by go_num, hb2, hwi.1, hwi.2, hB2.drew⟩
      · go_wp2
        go_ret
        exact ⟨rfl, ⟨a, len, cap, zs, 0, q, hb, HR.out, by omega, hl, q0, q1, Nat.le_refl _⟩, hB⟩
    · go_wp2
      go_ret
      exact ⟨rfl, ⟨a, len, cap, zs, 0, q, hb, HR.out, by omega, hl, q0, q1, Nat.le_refl _⟩, hB⟩

set_option maxRecDepth 100000 in
set_option maxHeartbeats 1000000 in
theorem l01Near_any (w0 W : World) (b : Nat) (most : Int) (hS : Src w0 W b) (hB : Below w0.heap.size w0 W) (h0 : 0 ≤ most) (h1 : most ≤ 1000000000) :
    Calls Tryz.prog 52 #[.pointer (some ⟨b, 0, none⟩), .int .i64 most] W (DrawnI (-4611686018427387904) 1099511627776 w0 W b) := by
  have HB0 := hS.ge
  have CN := Lib.hid (l01Next_i w0 W b 14 hS hB (by omega) (by omega))
  clear hS
  go_enter Tryz.func52, Tryz.ntmps52
  go_wp2_with fail
  refine CN.out.mono ?_
  rintro e W1 ⟨v, rfl, v0, v1, s1, g1⟩
  have hB1 := below_src hB HB0 g1
  have hbl := s1.lt
  by_cases hv : v = 0
  · go_wp2_with fail
    refine (l01Pick_any w0 _ b _ [-1, most + 1, 1099511627776, -4611686018427387904] (s1.below (Below.new _ _)) (hB1.alloc hB1.size _) (by simp) (by omega) (by simp) (by simp) (cells_new_ints W1 [-1, most + 1, 1099511627776, -4611686018427387904] _)).mono ?_
    rintro e W2 ⟨k, rfl, hk, s2, g2⟩
    have hk2 : -4611686018427387904 ≤ k ∧ k ≤ 1099511627776 := by simp at hk; omega
    go_wp2_with fail
    go_ret
    exact ⟨k, rfl, hk2.1, hk2.2, s2, grown_trans g1 (grown_trans (grown_of_below (Below.new W1 _) (some b)) g2)⟩
  · have CM := Lib.hid (l01Next_i w0 W1 b (most + 1) s1 hB1 (by omega) (by omega))
    go_wp2_with fail
    refine CM.out.mono ?_
    rintro e W2 ⟨k, rfl, k0, k1, s2, g2⟩
    go_wp2_with fail
    go_ret
    exact ⟨k, rfl, by omega, by omega, s2, grown_trans g1 g2⟩

theorem cells_new_strs (W : World) (xs : List ByteArray) (t : TypeId) : ∀ j (h : j < xs.length), (W.alloc (.cells (xs.map Value.string).toArray t)).cell? ⟨W.heap.size, j, none⟩ = some (.string (xs[j]'h)) := by
  intro j h
  rw [World.cell?_alloc_new]
  simp [h]
def signsL : List ByteArray := [⟨#[97]⟩, ⟨#[98]⟩, ⟨#[99]⟩, ⟨#[101]⟩, ⟨#[102]⟩, ⟨#[65]⟩, ⟨#[32]⟩, ⟨#[44]⟩, ⟨#[48]⟩, ⟨#[10]⟩]
theorem signsL_size : ∀ j (h : j < signsL.length), (signsL[j]'h).size = 1 := by
  intro j h
  match j, h with
  | 0, _ | 1, _ | 2, _ | 3, _ | 4, _ | 5, _ | 6, _ | 7, _ | 8, _ | 9, _ => rfl
  | j + 10, h => simp [signsL] at h; omega

set_option maxRecDepth 100000 in
set_option maxHeartbeats 1000000 in
theorem l01Damage_any (w0 W : World) (b : Nat) (x : ByteArray) (hS : Src w0 W b) (hB : Below w0.heap.size w0 W) (hx : x.size ≤ 1000) :
    Calls Tryz.prog 156 #[.pointer (some ⟨b, 0, none⟩), .string x] W (DrawnT (x.size + 1) w0 W b) := by
  have HB0 := hS.ge
  have hbl0 := hS.lt
  have CN := Lib.hid (l01Next_i w0 _ b 10 (hS.below (Below.new W (.cells (signsL.map Value.string).toArray 9))) (hB.alloc hB.size _) (by omega) (by omega))
  have HC := Lib.hid (cells_new_strs W signsL 9)
  have HB1 := Lib.hid (hB.alloc hB.size (.cells (signsL.map Value.string).toArray 9))
  have HG := Lib.hid (grown_of_below (Below.new W (.cells (signsL.map Value.string).toArray 9)) (some b))
  have hz : (W.alloc (.cells (signsL.map Value.string).toArray 9)).heap.size = W.heap.size + 1 := by simp
  clear hS
  go_enter Tryz.func156, Tryz.ntmps156
  go_wp2_with fail
  refine CN.out.mono ?_
  rintro e W1 ⟨v, rfl, v0, v1, s1, g1⟩
  obtain ⟨m, rfl⟩ := Int.eq_ofNat_of_zero_le v0
  have hm : m < signsL.length := by simp [signsL]; omega
  have k1 : W1.cell? ⟨W.heap.size, m, none⟩ = some (.string (signsL[m]'hm)) := by
    rw [grown_cell g1 (p := ⟨W.heap.size, m, none⟩) (by show W.heap.size < _; omega) (fun e => by have h : W.heap.size = b := Option.some.inj e; omega)]; exact HC.out m hm
  have hcs := signsL_size m hm
  have hB1 := below_src HB1.out HB0 g1
  have g2 := grown_trans HG.out g1
  have hm10 : (m : Int) < 10 := by omega
  generalize signsL[m]'hm = c at k1 hcs
  clear g1 hz
  by_cases h0 : x.size = 0
  · have hx0 : (x.size : Int) = 0 := by omega
    go_wp2_with fail
    go_ret
    exact ⟨c, rfl, by omega, s1, g2⟩
  · have CM := Lib.hid (l01Next_i w0 W1 b x.size s1 hB1 (by omega) (by omega))
    have hx0 : ¬ (x.size : Int) = 0 := by omega
    go_wp2_with fail
    refine CM.out.mono ?_
    rintro e W2 ⟨k, rfl, k0, k1, s2, g3⟩
    obtain ⟨n, rfl⟩ := Int.eq_ofNat_of_zero_le k0
    have hn : n < x.size := by omega
    have hB2 := below_src hB1 HB0 g3
    have g4 := grown_trans g2 g3
    have CK := Lib.hid (l01Next_i w0 W2 b 3 s2 hB2 (by omega) (by omega))
    have hsl1 := fun W => slice_to x (n : Int) n rfl (by omega) W
    have hsl2 := fun W => slice_from x ((n : Int) + 1) (n + 1) (by omega) (by omega) W
    have hsl3 := fun W => slice_from x (n : Int) n rfl (by omega) W
    have z1 : (x.extract 0 n).size = n := by simp; omega
    have z2 : (x.extract (n + 1) x.size).size = x.size - (n + 1) := by simp
    have z3 : (x.extract n x.size).size = x.size - n := by simp
    generalize x.extract 0 n = x1 at *
    generalize x.extract (n + 1) x.size = x2 at *
    generalize x.extract n x.size = x3 at *
    have hsum1 : ∀ W, (Op.stringOp .add x1 c).run Tryz.prog W = .ok (.string (x1 ++ c)) W := fun W => run_string_add_sum W _ _ (by omega)
    have y1 : (x1 ++ c).size = n + 1 := by rw [ByteArray.size_append]; omega
    have hsum2 : ∀ W, (Op.stringOp .add (x1 ++ c) x2).run Tryz.prog W = .ok (.string (x1 ++ c ++ x2)) W := fun W => run_string_add_sum W _ _ (by omega)
    have y2 : (x1 ++ c ++ x2).size = x.size := by rw [ByteArray.size_append]; omega
    have hsum3 : ∀ W, (Op.stringOp .add x1 x2).run Tryz.prog W = .ok (.string (x1 ++ x2)) W := fun W => run_string_add_sum W _ _ (by omega)
    have y3 : (x1 ++ x2).size = x.size - 1 := by rw [ByteArray.size_append]; omega
    have hsum4 : ∀ W, (Op.stringOp .add (x1 ++ c) x3).run Tryz.prog W = .ok (.string (x1 ++ c ++ x3)) W := fun W => run_string_add_sum W _ _ (by omega)
    have y4 : (x1 ++ c ++ x3).size = x.size + 1 := by rw [ByteArray.size_append]; omega
    generalize x1 ++ x2 = o3 at *
    generalize x1 ++ c ++ x2 = o2 at *
    generalize x1 ++ c ++ x3 = o4 at *
    generalize x1 ++ c = o1 at *
    go_wp2_with fail
    refine CK.out.mono ?_
    rintro e W3 ⟨q, rfl, q0, q1, s3, g5⟩
    have g6 := grown_trans g4 g5
    have s4 := fun n => (s3.below ((Below.refl _ W3).drewN n))
    by_cases hq0 : q = 0
    · subst hq0
      go_wp2_with fail
      go_quiet (fail)
      go_wp2
      go_ret
      exact ⟨o2, rfl, by omega, s4 _, grown_drewN g6 _⟩
    · by_cases hq1 : q = 1
      · subst hq1
        go_wp2_with fail
        go_quiet (fail)
        go_wp2
        go_ret
        exact ⟨o3, rfl, by omega, s4 _, grown_drewN g6 _⟩
      · go_wp2_with fail
        go_quiet (fail)
        go_wp2
        go_ret
        exact ⟨o4, rfl, by omega, s4 _, grown_drewN g6 _⟩

set_option maxRecDepth 100000 in
set_option maxHeartbeats 1000000 in
theorem l01Bad_any (w0 W : World) (b : Nat) (x : ByteArray) (hS : Src w0 W b) (hB : Below w0.heap.size w0 W) (hx : x.size ≤ 900) :
    Calls Tryz.prog 116 #[.pointer (some ⟨b, 0, none⟩), .string x] W (DrawnT (x.size + 64) w0 W b) := by
  have HB0 := hS.ge
  have CN := Lib.hid (l01Next_i w0 W b 50 hS hB (by omega) (by omega))
  clear hS
  go_enter Tryz.func116, Tryz.ntmps116
  go_wp2_with fail
  refine CN.out.mono ?_
  rintro e W1 ⟨v, rfl, v0, v1, s1, g1⟩
  have hB1 := below_src hB HB0 g1
  by_cases h0 : v = 0
  · subst h0
    have hsum : ∀ W, (Op.stringOp .add x ⟨#[102]⟩).run Tryz.prog W = .ok (.string (x ++ ⟨#[102]⟩)) W := fun W => run_string_add_sum W _ _ (by show x.size + 1 ≤ _; omega)
    have y1 : (x ++ (⟨#[102]⟩ : ByteArray)).size = x.size + 1 := by rw [ByteArray.size_append]; rfl
    generalize x ++ (⟨#[102]⟩ : ByteArray) = o1 at *
    go_wp2_with fail
    go_ret
    exact ⟨o1, rfl, by omega, s1, g1⟩
  · by_cases h1 : v = 1
    · subst h1
      have CD := Lib.hid (l01Damage_any w0 W1 b x s1 hB1 (by omega))
      go_wp2_with fail
      refine CD.out.mono ?_
      rintro e W2 ⟨y, rfl, hy, s2, g2⟩
      go_wp2_with fail
      go_ret
      exact ⟨y, rfl, by omega, s2, grown_trans g1 g2⟩
    · by_cases h2 : v = 2
      · subst h2
        go_wp2_with fail
        go_loopg [1] 61 (fun g s1 wr => ∃ y : ByteArray, 61 ≤ g + y.size ∧ y.size ≤ x.size + 62 ∧ s1 = .string y ∧ wr = W1)
        case atStart => exact ⟨x, by omega, by omega, rfl, rfl⟩
        case round =>
          obtain ⟨y, hy1, hy2, rfl, rfl⟩ := hrel
          by_cases hp : y.size ≤ 60
          · obtain ⟨g, rfl⟩ : ∃ g, gk = g + 1 := ⟨gk - 1, by omega⟩
            have hsum : ∀ W, (Op.stringOp .add y ⟨#[97, 98]⟩).run Tryz.prog W = .ok (.string (y ++ ⟨#[97, 98]⟩)) W := fun W => run_string_add_sum W _ _ (by show y.size + 2 ≤ _; omega)
            have y1 : (y ++ (⟨#[97, 98]⟩ : ByteArray)).size = y.size + 2 := by rw [ByteArray.size_append]; rfl
            generalize y ++ (⟨#[97, 98]⟩ : ByteArray) = o1 at *
            go_wp2
            go_roundg g
            case measure => omega
            case rel => exact ⟨o1, by omega, by omega, rfl, by first | rfl | trivial⟩
          · go_wp2
            go_ret
            exact ⟨y, rfl, by omega, s1, g1⟩
      · go_wp2_with fail
        go_ret
        exact ⟨x, rfl, by omega, s1, g1⟩

end Go.Proofs.YtfipbnognjepkaaGreatDoor

/-! ### Draw10 -/
namespace Go.Proofs.YtfipbnognjepkaaGreatDoor
set_option linter.unusedVariables false
set_option linter.unusedSimpArgs false
open Go.RowKit

/-- A text of variables alone. -/
def AbcT (p : ByteArray) : Prop := p.size ≤ 8 ∧ IsPL (bl p)
def namesP : List ByteArray := [⟨#[65, 65]⟩, ⟨#[65, 66, 65]⟩, ⟨#[65, 65, 65]⟩, ⟨#[65, 66, 65, 66]⟩, ⟨#[65, 66, 66, 65]⟩, ⟨#[65, 66, 65, 67, 65, 66, 65]⟩, ⟨#[65, 65, 66, 66]⟩, ⟨#[65, 66, 67, 65, 66]⟩, ⟨#[65, 66, 65, 67]⟩, ⟨#[65, 66, 67, 66, 65]⟩]
theorem namesP_abc : ∀ j (h : j < namesP.length), AbcT (namesP[j]'h) := by
  intro j h
  have key : ∀ p ∈ namesP, p.size ≤ 8 ∧ ∀ c ∈ bl p, 65 ≤ c.toNat ∧ c.toNat ≤ 67 := by decide
  exact key _ (List.getElem_mem h)
def abcL : List ByteArray := [⟨#[65]⟩, ⟨#[66]⟩, ⟨#[67]⟩]
theorem abcL_one : ∀ j (h : j < abcL.length), (abcL[j]'h).size = 1 ∧ IsPL (bl (abcL[j]'h)) := by
  intro j h
  have key : ∀ p ∈ abcL, p.size = 1 ∧ ∀ c ∈ bl p, 65 ≤ c.toNat ∧ c.toNat ≤ 67 := by decide
  exact key _ (List.getElem_mem h)
theorem isPL_app {A B : List UInt8} (a : IsPL A) (b : IsPL B) : IsPL (A ++ B) := by
  intro c hc
  rcases List.mem_append.1 hc with h | h
  · exact a c h
  · exact b c h
def DrawnP (w0 W : World) (b : Nat) (e : Ending) (W' : World) : Prop := ∃ x : ByteArray, e = .returned (.string x) ∧ AbcT x ∧ Src w0 W' b ∧ W.grownBy W' (some b)

set_option maxRecDepth 100000 in
set_option maxHeartbeats 2000000 in
theorem l10DrawOf_any (w0 W : World) (b : Nat) (hS : Src w0 W b) (hB : Below w0.heap.size w0 W) :
    Calls Tryz.prog 50 #[.pointer (some ⟨b, 0, none⟩)] W (DrawnP w0 W b) := by
  have HB0 := hS.ge
  have CN := Lib.hid (l01Next_i w0 W b 2 hS hB (by omega) (by omega))
  clear hS
  go_enter Tryz.func50, Tryz.ntmps50
  go_wp2_with fail
  refine CN.out.mono ?_
  rintro e W1 ⟨v, rfl, v0, v1, s1, g1⟩
  have hB1 := below_src hB HB0 g1
  have hbl := s1.lt
  clear CN
  by_cases h0 : v = 0
  · subst h0
    obtain ⟨WA, hWA⟩ : ∃ WA, WA = W1.alloc (.cells #[.string ⟨#[65, 65]⟩, .string ⟨#[65, 66, 65]⟩, .string ⟨#[65, 65, 65]⟩, .string ⟨#[65, 66, 65, 66]⟩, .string ⟨#[65, 66, 66, 65]⟩, .string ⟨#[65, 66, 65, 67, 65, 66, 65]⟩, .string ⟨#[65, 65, 66, 66]⟩, .string ⟨#[65, 66, 67, 65, 66]⟩, .string ⟨#[65, 66, 65, 67]⟩, .string ⟨#[65, 66, 67, 66, 65]⟩] 9) := ⟨_, rfl⟩
    have bA : Below W1.heap.size W1 WA := by rw [hWA]; exact Below.new _ _
    have HC : ∀ j (h : j < namesP.length), WA.cell? ⟨W1.heap.size, j, none⟩ = some (.string (namesP[j]'h)) := by rw [hWA]; exact cells_new_strs W1 namesP 9
    have CM := Lib.hid (l01Next_i w0 WA b 10 (s1.below bA) (hB1.then bA) (by omega) (by omega))
    have HC := Lib.hid HC
    have HG := Lib.hid (grown_trans g1 (grown_of_below bA (some b)))
    have hz : WA.heap.size = W1.heap.size + 1 := by rw [hWA]; simp
    clear s1 g1 hB1
    go_wp2_with fail
    rw [← hWA]
    clear hWA
    refine CM.out.mono ?_
    rintro e W2 ⟨m, rfl, m0, m1, s2, g2⟩
    obtain ⟨k, rfl⟩ := Int.eq_ofNat_of_zero_le m0
    have hk : k < namesP.length := by show k < 10; omega
    have hk10 : k < 10 := hk
    have k1 : W2.cell? ⟨W1.heap.size, k, none⟩ = some (.string (namesP[k]'hk)) := by
      rw [grown_cell g2 (p := ⟨W1.heap.size, k, none⟩) (by show W1.heap.size < WA.heap.size; omega) (fun e => by have h : W1.heap.size = b := Option.some.inj e; omega)]; exact HC.out k hk
    have HA := Lib.hid (namesP_abc k hk)
    generalize namesP[k]'hk = p at k1 HA
    have HG2 := Lib.hid (grown_trans HG.out g2)
    clear g2 HC CM
    go_wp2_with fail
    go_ret
    exact ⟨p, rfl, HA.out, s2, HG2.out⟩
  · have CP := Lib.hid (l01Pick_any w0 _ b _ [4, 6, 8] (s1.below (Below.new _ _)) (hB1.alloc hB1.size _) (by simp) (by omega) (by decide) (by decide) (cells_new_ints W1 [4, 6, 8] 2))
    have HG1 := Lib.hid (grown_trans g1 (grown_of_below (Below.new W1 (.cells ([4, 6, 8].map (Value.int .i64)).toArray 2)) (some b)))
    clear s1 g1
    go_wp2_with fail
    refine CP.out.mono ?_
    rintro e W2 ⟨z, rfl, hz, s2, g2⟩
    have hz2 : 1 ≤ z ∧ z ≤ 8 := by simp at hz; omega
    have G2 := Lib.hid (grown_trans HG1.out g2)
    have hB2 := below_src hB HB0 G2.out
    have CN2 := Lib.hid (l01Next_i w0 W2 b z s2 hB2 hz2.1 (by omega))
    clear hz g2 HG1 CP s2 hB1
    go_wp2_with fail
    refine CN2.out.mono ?_
    rintro e W3 ⟨y, rfl, y0, y1, s3, g3⟩
    have G3 := Lib.hid (grown_trans G2.out g3)
    clear g3 G2 CN2 hB2
    obtain ⟨N, rfl⟩ := Int.eq_ofNat_of_zero_le y0
    have hN : N + 1 ≤ 8 := by omega
    clear y0 y1
    go_wp2_with fail
    go_loopg [3, 4] (N + 1) (fun g s3 s4 wr => ∃ (p : ByteArray), g ≤ N + 1 ∧ p.size + g = N + 1 ∧ IsPL (bl p) ∧ s3 = .string p ∧ s4 = .int .i64 (g : Int) ∧ Src w0 wr b ∧ W.grownBy wr (some b))
    case atStart => exact ⟨⟨#[]⟩, Nat.le_refl _, by show 0 + _ = _; omega, (fun c hc => by cases hc), rfl, by go_num, s3, G3.out⟩
    case round =>
      clear s3 G3
      obtain ⟨p, hg, hp, hP, rfl, rfl, hS, hG⟩ := hrel
      have hB1 := below_src hB HB0 hG
      have hbl2 := hS.lt
      by_cases hgp : gk = 0
      · subst hgp
        have HP := Lib.hid hP
        clear hP
        go_wp2_with fail
        go_ret
        exact ⟨p, rfl, ⟨by omega, HP.out⟩, hS, hG⟩
      · obtain ⟨g, rfl⟩ : ∃ g, gk = g + 1 := ⟨gk - 1, by omega⟩
        have HP := Lib.hid hP
        clear hP
        obtain ⟨WA, hWA⟩ : ∃ WA, WA = wr.alloc (.cells #[.string ⟨#[65]⟩, .string ⟨#[66]⟩, .string ⟨#[67]⟩] 9) := ⟨_, rfl⟩
        have HC : ∀ j (h : j < abcL.length), WA.cell? ⟨wr.heap.size, j, none⟩ = some (.string (abcL[j]'h)) := by rw [hWA]; exact cells_new_strs wr abcL 9
        have bA : Below wr.heap.size wr WA := by rw [hWA]; exact Below.new _ _
        have sA := hS.below bA
        have BA := hB1.then bA
        have GA := grown_trans hG (grown_of_below bA (some b))
        have zA : WA.heap.size = wr.heap.size + 1 := by rw [hWA]; simp
        obtain ⟨WB, hWB⟩ : ∃ WB, WB = WA.alloc (.cells #[.int .i64 1, .int .i64 2, .int .i64 3, .int .i64 3] 2) := ⟨_, rfl⟩
        have HCB : ∀ j (h : j < [1, 2, 3, 3].length), WB.cell? ⟨wr.heap.size + 1, j, none⟩ = some (.int .i64 ([1, 2, 3, 3][j]'h)) := by rw [← zA, hWB]; exact cells_new_ints WA [1, 2, 3, 3] 2
        have bB : Below WA.heap.size WA WB := by rw [hWB]; exact Below.new _ _
        have zB : WB.heap.size = WA.heap.size + 1 := by rw [hWB]; simp
        have CP := Lib.hid (l01Pick_any w0 WB b (wr.heap.size + 1) [1, 2, 3, 3] (sA.below bB) (BA.then bB) (by omega) (by omega) (by decide) (by decide) HCB)
        have HG1 := Lib.hid (grown_of_below bB (some b))
        have HCC := Lib.hid HC
        clear HC hS HCB
        go_wp2_with fail
        rw [← hWA, ← hWB]
        clear hWA hWB
        refine CP.out.mono ?_
        rintro e W2 ⟨z, rfl, hz, s2, g2⟩
        have hz2 : 1 ≤ z ∧ z ≤ 3 := by simp at hz; omega
        have G2 := Lib.hid (grown_trans HG1.out g2)
        have hB2 := below_src BA HB0 G2.out
        have CN2 := Lib.hid (l01Next_i w0 W2 b z s2 hB2 hz2.1 (by omega))
        have z2 := g2.size
        clear hz g2 HG1 CP s2
        go_wp2_with fail
        refine CN2.out.mono ?_
        rintro e W3 ⟨y, rfl, y0, y1, s3, g3⟩
        have G3 := Lib.hid (grown_trans G2.out g3)
        obtain ⟨k, rfl⟩ := Int.eq_ofNat_of_zero_le y0
        have hk : k < abcL.length := by show k < 3; omega
        have hk3 : k < 3 := hk
        have k1 : W3.cell? ⟨wr.heap.size, k, none⟩ = some (.string (abcL[k]'hk)) := by
          rw [grown_cell G3.out (p := ⟨wr.heap.size, k, none⟩) (by show wr.heap.size < WA.heap.size; omega) (fun e => by have h : wr.heap.size = b := Option.some.inj e; omega)]; exact HCC.out k hk
        have hone := abcL_one k hk
        generalize abcL[k]'hk = t at k1 hone
        obtain ⟨ho1, ho2⟩ := hone
        have hsum : ∀ W, (Op.stringOp .add p t).run Tryz.prog W = .ok (.string (p ++ t)) W := fun W => run_string_add_sum W p t (by omega)
        have hz3 : (p ++ t).size = p.size + 1 := by rw [ByteArray.size_append]; omega
        have hP2 : IsPL (bl (p ++ t)) := by rw [bl_append]; exact isPL_app HP.out ho2
        have HP2 := Lib.hid hP2
        have GG := Lib.hid (grown_trans GA G3.out)
        clear hP2 ho2 g3 G2 CN2 hB2 HP GA BA HCC G3 hG hB1
        generalize p ++ t = q at *
        go_wp2_with fail
        go_roundg g
        case measure => omega
        case rel => exact ⟨q, by omega, by omega, HP2.out, rfl, by go_num, s3, GG.out⟩

set_option maxRecDepth 100000 in
set_option maxHeartbeats 1000000 in
theorem l10Bad_any (w0 W : World) (b : Nat) (x : ByteArray) (hS : Src w0 W b) (hB : Below w0.heap.size w0 W) (hx : x.size ≤ 900) :
    Calls Tryz.prog 49 #[.pointer (some ⟨b, 0, none⟩), .string x] W (DrawnT (x.size + 64) w0 W b) := by
  have HB0 := hS.ge
  have CN := Lib.hid (l01Next_i w0 W b 40 hS hB (by omega) (by omega))
  clear hS
  go_enter Tryz.func49, Tryz.ntmps49
  go_wp2_with fail
  refine CN.out.mono ?_
  rintro e W1 ⟨v, rfl, v0, v1, s1, g1⟩
  have hB1 := below_src hB HB0 g1
  by_cases h0 : v = 0
  · subst h0
    go_wp2_with fail
    go_ret
    exact ⟨_, rfl, by show 0 ≤ _; omega, s1, g1⟩
  · by_cases h1 : v = 1
    · subst h1
      have hsum : ∀ W, (Op.stringOp .add x ⟨#[68]⟩).run Tryz.prog W = .ok (.string (x ++ ⟨#[68]⟩)) W := fun W => run_string_add_sum W _ _ (by show x.size + 1 ≤ _; omega)
      have y1 : (x ++ (⟨#[68]⟩ : ByteArray)).size = x.size + 1 := by rw [ByteArray.size_append]; rfl
      generalize x ++ (⟨#[68]⟩ : ByteArray) = o1 at *
      go_wp2_with fail
      go_ret
      exact ⟨o1, rfl, by omega, s1, g1⟩
    · by_cases h2 : v = 2
      · subst h2
        go_wp2_with fail
        go_ret
        exact ⟨_, rfl, by show 9 ≤ _; omega, s1, g1⟩
      · go_wp2_with fail
        go_ret
        exact ⟨x, rfl, by omega, s1, g1⟩

end Go.Proofs.YtfipbnognjepkaaGreatDoor

/-! ### Draw10A -/
namespace Go.Proofs.YtfipbnognjepkaaGreatDoor
set_option linter.unusedVariables false
set_option linter.unusedSimpArgs false
open Go.RowKit

/-- What the draws come to: a text, a text and a number, a text and two numbers. -/
def OneTA (w : World) (e : Ending) (w' : World) : Prop := ∃ x : ByteArray, e = .returned (.string x) ∧ x.size ≤ 1000 ∧ Below w.heap.size w w'
def TextIA (w : World) (e : Ending) (w' : World) : Prop := ∃ (x : ByteArray) (k : Int), e = .returned (.tuple #[.string x, .int .i64 k]) ∧ x.size ≤ 1000 ∧ (Lit.int .i64 k).wf = true ∧ Below w.heap.size w w'
def TextIIA (w : World) (e : Ending) (w' : World) : Prop := ∃ (x : ByteArray) (i m : Int), e = .returned (.tuple #[.string x, .int .i64 i, .int .i64 m]) ∧ x.size ≤ 1000 ∧ (Lit.int .i64 i).wf = true ∧ (Lit.int .i64 m).wf = true ∧ Below w.heap.size w w'
theorem wf_nearA {k : Int} (h0 : -4611686018427387904 ≤ k) (h1 : k ≤ 1099511627776) : (Lit.int .i64 k).wf = true := by
  simp [Lit.wf, IntKind.min, IntKind.max, IntKind.signed, IntKind.bits]
  omega


set_option maxRecDepth 100000 in
set_option maxHeartbeats 1000000 in
theorem DrawIsPattern_any (a : Option Addr) (len cap : Nat) (zs : List Int) (w : World) (h : IsRow .u8 w a len cap zs) (hl : len ≤ 1048576) :
    Calls Tryz.prog 68 #[.slice a len cap] w (OneTA w) := by
  have CF := Lib.hid (l01From_any a len cap zs w h hl)
  clear h
  go_enter Tryz.func68, Tryz.ntmps68
  go_wp2_with fail
  refine CF.out.mono ?_
  rintro e W0 ⟨rfl, s0, hB0⟩
  have HB0 := s0.ge
  clear CF
  have C1 := Lib.hid (l10DrawOf_any w W0 w.heap.size s0 hB0)
  clear s0
  go_wp2_with fail
  refine C1.out.mono ?_
  rintro e W1 ⟨p, rfl, hp, s1, g1⟩
  have hB1 := below_src hB0 HB0 g1
  clear C1 hB0 g1
  have hp8 := hp.1
  have C2 := Lib.hid (l10Bad_any w W1 w.heap.size p s1 hB1 (by omega))
  clear s1
  go_wp2_with fail
  refine C2.out.mono ?_
  rintro e W2 ⟨x, rfl, hx, s2, g2⟩
  have hB2 := below_src hB1 HB0 g2
  clear C2 hB1 g2
  have hx9 : x.size ≤ 1000 := by omega
  go_wp2_with fail
  go_ret
  exact ⟨x, rfl, hx9, hB2⟩

set_option maxRecDepth 100000 in
theorem DrawIsUnavoidable_any (a : Option Addr) (len cap : Nat) (zs : List Int) (w : World) (h : IsRow .u8 w a len cap zs) (hl : len ≤ 1048576) :
    Calls Tryz.prog 18 #[.slice a len cap] w (OneTA w) := by
  have CF := Lib.hid (DrawIsPattern_any a len cap zs w h hl)
  clear h
  go_enter Tryz.func18, Tryz.ntmps18
  go_wp2_with fail
  refine CF.out.mono ?_
  rintro e W0 ⟨x, rfl, hx, hB⟩
  go_wp2_with fail
  go_ret
  exact ⟨x, rfl, hx, hB⟩
def NumI (w : World) (e : Ending) (w' : World) : Prop := ∃ k : Int, e = .returned (.int .i64 k) ∧ (Lit.int .i64 k).wf = true ∧ Below w.heap.size w w'

set_option maxRecDepth 100000 in
set_option maxHeartbeats 1000000 in
theorem DrawZiminWord_any (a : Option Addr) (len cap : Nat) (zs : List Int) (w : World) (h : IsRow .u8 w a len cap zs) (hl : len ≤ 1048576) :
    Calls Tryz.prog 15 #[.slice a len cap] w (NumI w) := by
  have CF := Lib.hid (l01From_any a len cap zs w h hl)
  clear h
  go_enter Tryz.func15, Tryz.ntmps15
  go_wp2_with fail
  refine CF.out.mono ?_
  rintro e W0 ⟨rfl, s0, hB0⟩
  have HB0 := s0.ge
  clear CF
  have C1 := Lib.hid (l01Near_any w W0 w.heap.size 5 s0 hB0 (by omega) (by omega))
  clear s0
  go_wp2_with fail
  refine C1.out.mono ?_
  rintro e W1 ⟨k, rfl, k0, k1, s1, g1⟩
  have hB1 := below_src hB0 HB0 g1
  clear C1 hB0 g1
  go_wp2_with fail
  go_ret
  exact ⟨k, rfl, wf_nearA k0 k1, hB1⟩

set_option maxRecDepth 100000 in
set_option maxHeartbeats 1000000 in
theorem DrawLongestAvoiding_any (a : Option Addr) (len cap : Nat) (zs : List Int) (w : World) (h : IsRow .u8 w a len cap zs) (hl : len ≤ 1048576) :
    Calls Tryz.prog 12 #[.slice a len cap] w (TextIA w) := by
  have CF := Lib.hid (l01From_any a len cap zs w h hl)
  clear h
  go_enter Tryz.func12, Tryz.ntmps12
  go_wp2_with fail
  refine CF.out.mono ?_
  rintro e W0 ⟨rfl, s0, hB0⟩
  have HB0 := s0.ge
  clear CF
  have C1 := Lib.hid (l10DrawOf_any w W0 w.heap.size s0 hB0)
  clear s0
  go_wp2_with fail
  refine C1.out.mono ?_
  rintro e W1 ⟨p, rfl, hp, s1, g1⟩
  have hB1 := below_src hB0 HB0 g1
  clear C1 hB0 g1
  have hp8 := hp.1
  have C2 := Lib.hid (l10Bad_any w W1 w.heap.size p s1 hB1 (by omega))
  clear s1
  go_wp2_with fail
  refine C2.out.mono ?_
  rintro e W2 ⟨x, rfl, hx, s2, g2⟩
  have hB2 := below_src hB1 HB0 g2
  clear C2 hB1 g2
  have hx9 : x.size ≤ 1000 := by omega
  have hl2 := s2.lt
  go_wp2_with fail
  refine (l01Pick_any w _ w.heap.size _ ([1, 2, 2, 2, 0, 3] : List Int) (s2.below (Below.new _ _)) (hB2.alloc hB2.size _) (by simp) (by omega) (by simp) (by simp) (cells_new_ints W2 [1, 2, 2, 2, 0, 3] _)).mono ?_
  rintro e W3 ⟨z, rfl, hz, s3, g3⟩
  have hz2 : 0 ≤ z ∧ z ≤ 3 := by simp at hz; omega
  have hB3 := below_src (hB2.alloc hB2.size _) HB0 g3
  clear hz s2 hB2 g3 hl2
  go_wp2_with fail
  go_ret2
  exact ⟨x, z, rfl, hx9, wf_nearA (by omega) (by omega), hB3⟩

set_option maxRecDepth 100000 in
set_option maxHeartbeats 1000000 in
theorem DrawFirstAvoiding_any (a : Option Addr) (len cap : Nat) (zs : List Int) (w : World) (h : IsRow .u8 w a len cap zs) (hl : len ≤ 1048576) :
    Calls Tryz.prog 6 #[.slice a len cap] w (TextIIA w) := by
  have CF := Lib.hid (l01From_any a len cap zs w h hl)
  clear h
  go_enter Tryz.func6, Tryz.ntmps6
  go_wp2_with fail
  refine CF.out.mono ?_
  rintro e W0 ⟨rfl, s0, hB0⟩
  have HB0 := s0.ge
  clear CF
  have C1 := Lib.hid (l10DrawOf_any w W0 w.heap.size s0 hB0)
  clear s0
  go_wp2_with fail
  refine C1.out.mono ?_
  rintro e W1 ⟨p, rfl, hp, s1, g1⟩
  have hB1 := below_src hB0 HB0 g1
  clear C1 hB0 g1
  have hp8 := hp.1
  have C2 := Lib.hid (l10Bad_any w W1 w.heap.size p s1 hB1 (by omega))
  clear s1
  go_wp2_with fail
  refine C2.out.mono ?_
  rintro e W2 ⟨x, rfl, hx, s2, g2⟩
  have hB2 := below_src hB1 HB0 g2
  clear C2 hB1 g2
  have hx9 : x.size ≤ 1000 := by omega
  have C3 := Lib.hid (l01Near_any w W2 w.heap.size 3 s2 hB2 (by omega) (by omega))
  clear s2
  go_wp2_with fail
  refine C3.out.mono ?_
  rintro e W3 ⟨k, rfl, k0, k1, s3, g3⟩
  have hB3 := below_src hB2 HB0 g3
  clear C3 hB2 g3
  have hl3 := s3.lt
  go_wp2_with fail
  refine (l01Pick_any w _ w.heap.size _ ([1, 2, 2, 3, k] : List Int) (s3.below (Below.new _ _)) (hB3.alloc hB3.size _) (by simp) (by omega) (by simp) (by simp) (cells_new_ints W3 [1, 2, 2, 3, k] _)).mono ?_
  rintro e W4 ⟨z, rfl, hz, s4, g4⟩
  have hz2 : -4611686018427387904 ≤ z ∧ z ≤ 1099511627776 := by simp at hz; omega
  have hB4 := below_src (hB3.alloc hB3.size _) HB0 g4
  clear hz s3 hB3 g4 hl3
  have C5 := Lib.hid (l01Near_any w W4 w.heap.size 12 s4 hB4 (by omega) (by omega))
  clear s4
  go_wp2_with fail
  refine C5.out.mono ?_
  rintro e W5 ⟨n, rfl, n0, n1, s5, g5⟩
  have hB5 := below_src hB4 HB0 g5
  clear C5 hB4 g5
  have hl5 := s5.lt
  go_wp2_with fail
  refine (l01Pick_any w _ w.heap.size _ ([3, 6, 9, 12, n] : List Int) (s5.below (Below.new _ _)) (hB5.alloc hB5.size _) (by simp) (by omega) (by simp) (by simp) (cells_new_ints W5 [3, 6, 9, 12, n] _)).mono ?_
  rintro e W6 ⟨y, rfl, hy, s6, g6⟩
  have hy2 : -4611686018427387904 ≤ y ∧ y ≤ 1099511627776 := by simp at hy; omega
  have hB6 := below_src (hB5.alloc hB5.size _) HB0 g6
  clear hy s5 hB5 g6 hl5
  go_wp2_with fail
  go_ret3
  exact ⟨x, z, y, rfl, hx9, wf_nearA (by omega) (by omega), wf_nearA (by omega) (by omega), hB6⟩

set_option maxRecDepth 100000 in
set_option maxHeartbeats 1000000 in
theorem DrawCountAvoiding_any (a : Option Addr) (len cap : Nat) (zs : List Int) (w : World) (h : IsRow .u8 w a len cap zs) (hl : len ≤ 1048576) :
    Calls Tryz.prog 9 #[.slice a len cap] w (TextIIA w) := by
  have CF := Lib.hid (l01From_any a len cap zs w h hl)
  clear h
  go_enter Tryz.func9, Tryz.ntmps9
  go_wp2_with fail
  refine CF.out.mono ?_
  rintro e W0 ⟨rfl, s0, hB0⟩
  have HB0 := s0.ge
  clear CF
  have C1 := Lib.hid (l10DrawOf_any w W0 w.heap.size s0 hB0)
  clear s0
  go_wp2_with fail
  refine C1.out.mono ?_
  rintro e W1 ⟨p, rfl, hp, s1, g1⟩
  have hB1 := below_src hB0 HB0 g1
  clear C1 hB0 g1
  have hp8 := hp.1
  have C2 := Lib.hid (l01Near_any w W1 w.heap.size 3 s1 hB1 (by omega) (by omega))
  clear s1
  go_wp2_with fail
  refine C2.out.mono ?_
  rintro e W2 ⟨k, rfl, k0, k1, s2, g2⟩
  have hB2 := below_src hB1 HB0 g2
  clear C2 hB1 g2
  have hl2 := s2.lt
  go_wp2_with fail
  refine (l01Pick_any w _ w.heap.size _ ([1, 2, 2, 2, 3, k] : List Int) (s2.below (Below.new _ _)) (hB2.alloc hB2.size _) (by simp) (by omega) (by simp) (by simp) (cells_new_ints W2 [1, 2, 2, 2, 3, k] _)).mono ?_
  rintro e W3 ⟨z, rfl, hz, s3, g3⟩
  have hz2 : -4611686018427387904 ≤ z ∧ z ≤ 1099511627776 := by simp at hz; omega
  have hB3 := below_src (hB2.alloc hB2.size _) HB0 g3
  clear hz s2 hB2 g3 hl2
  have C4 := Lib.hid (l01Near_any w W3 w.heap.size 9 s3 hB3 (by omega) (by omega))
  clear s3
  go_wp2_with fail
  refine C4.out.mono ?_
  rintro e W4 ⟨n, rfl, n0, n1, s4, g4⟩
  have hB4 := below_src hB3 HB0 g4
  clear C4 hB3 g4
  have hl4 := s4.lt
  go_wp2_with fail
  refine (l01Pick_any w _ w.heap.size _ ([3, 5, 6, 7, n] : List Int) (s4.below (Below.new _ _)) (hB4.alloc hB4.size _) (by simp) (by omega) (by simp) (by simp) (cells_new_ints W4 [3, 5, 6, 7, n] _)).mono ?_
  rintro e W5 ⟨y, rfl, hy, s5, g5⟩
  have hy2 : -4611686018427387904 ≤ y ∧ y ≤ 1099511627776 := by simp at hy; omega
  have hB5 := below_src (hB4.alloc hB4.size _) HB0 g5
  clear hy s4 hB4 g5 hl4
  by_cases hz3 : z > 2
  · skip
    have hl5 := s5.lt
    go_wp2_with fail
    refine (l01Pick_any w _ w.heap.size _ ([2, 4, 5, 10] : List Int) (s5.below (Below.new _ _)) (hB5.alloc hB5.size _) (by simp) (by omega) (by simp) (by simp) (cells_new_ints W5 [2, 4, 5, 10] _)).mono ?_
    rintro e W6 ⟨u, rfl, hu, s6, g6⟩
    have hu2 : 2 ≤ u ∧ u ≤ 10 := by simp at hu; omega
    have hB6 := below_src (hB5.alloc hB5.size _) HB0 g6
    clear hu s5 hB5 g6 hl5
    have C7 := Lib.hid (l10Bad_any w W6 w.heap.size p s6 hB6 (by omega))
    clear s6
    go_wp2_with fail
    refine C7.out.mono ?_
    rintro e W7 ⟨x, rfl, hx, s7, g7⟩
    have hB7 := below_src hB6 HB0 g7
    clear C7 hB6 g7
    have hx9 : x.size ≤ 1000 := by omega
    go_wp2_with fail
    go_ret3
    exact ⟨x, z, u, rfl, hx9, wf_nearA (by omega) (by omega), wf_nearA (by omega) (by omega), hB7⟩
  · skip
    have C6 := Lib.hid (l10Bad_any w W5 w.heap.size p s5 hB5 (by omega))
    clear s5
    go_wp2_with fail
    refine C6.out.mono ?_
    rintro e W6 ⟨x, rfl, hx, s6, g6⟩
    have hB6 := below_src hB5 HB0 g6
    clear C6 hB5 g6
    have hx9 : x.size ≤ 1000 := by omega
    go_wp2_with fail
    go_ret3
    exact ⟨x, z, y, rfl, hx9, wf_nearA (by omega) (by omega), wf_nearA (by omega) (by omega), hB6⟩

end Go.Proofs.YtfipbnognjepkaaGreatDoor

/-! ### Like -/
namespace Go.Proofs.YtfipbnognjepkaaGreatDoor
set_option linter.unusedVariables false
set_option linter.unusedSimpArgs false
open Go.RowKit

set_option maxRecDepth 100000 in
theorem big_no (a : Option Addr) (len cap : Nat) (w : World) (h : len ≤ 4096) :
    Calls Tryz.prog 5 #[.slice a len cap] w fun e w' => e = .returned (.bool false) ∧ Below w.heap.size w w' := by
  go_enter Tryz.func5, Tryz.ntmps5
  go_wp2
  go_ret
  exact ⟨ret_bool (by simp; omega), Below.refl _ _⟩
set_option maxRecDepth 100000 in
theorem big_yes (a : Option Addr) (len cap : Nat) (w : World) (h : 4096 < len) :
    Calls Tryz.prog 5 #[.slice a len cap] w fun e w' => e = .returned (.bool true) ∧ Below w.heap.size w w' := by
  go_enter Tryz.func5, Tryz.ntmps5
  go_wp2
  go_ret
  exact ⟨ret_bool (by simp; omega), Below.refl _ _⟩

set_option maxRecDepth 100000 in
theorem words5_yes (B1 B2 : Nat) (v1 v2 : Value) (L : List ByteArray) (w : World) (h1 : OwnS w B1 v1 L) (h2 : OwnS w B2 v2 L) :
    Calls Tryz.prog 39 #[v1, v2] w fun e w' => e = .returned (.bool true) ∧ Below w.heap.size w w' := by
  by_cases h0 : L = []
  · subst h0
    obtain ⟨a1, c1, rfl⟩ := h1.empty
    obtain ⟨a2, c2, rfl⟩ := h2.empty
    clear h1 h2
    go_enter Tryz.func39, Tryz.ntmps39
    go_wp2
    refine wp_loop_rounds 1 ?_
    rw [rounds_succ]
    go_wp2
    go_ret
    exact ⟨rfl, Below.refl _ _⟩
  · have hn : 0 < L.length := List.length_pos_iff.2 h0
    obtain ⟨g1, c1, rfl, _, hg1, hc1, hm, cell1, _⟩ := h1.row hn
    obtain ⟨g2, c2, rfl, _, hg2, hc2, _, cell2, _⟩ := h2.row hn
    unfold maxLen at hm
    have C1 := Lib.hid cell1
    have C2 := Lib.hid cell2
    clear h1 h2 cell1 cell2 h0
    go_enter Tryz.func39, Tryz.ntmps39
    go_wp2
    go_loopw [5] (fun i wr => ∃ k : Nat, k ≤ L.length ∧ i = .int .i64 k ∧ Below w.heap.size w wr) (fun i _ => L.length - (intOf i).toNat)
    case atStart => exact ⟨0, Nat.zero_le _, rfl, Below.refl _ _⟩
    case round =>
      obtain ⟨k, hk, rfl, hB⟩ := hrel
      by_cases hp : k < L.length
      · have k1 : wr.cell? ⟨g1, k, none⟩ = some (.string (L[k]'hp)) := by rw [(bcell hB).1 g1 k hg1]; exact C1.out k hp
        have k2 : wr.cell? ⟨g2, k, none⟩ = some (.string (L[k]'hp)) := by rw [(bcell hB).1 g2 k hg2]; exact C2.out k hp
        have hpc1 : k < c1 := by omega
        have hpc2 : k < c2 := by omega
        generalize L[k]'hp = z at k1 k2
        go_wp2
        go_quiet (fail)
        go_wp2
        go_roundw
        case rel => exact ⟨k + 1, by omega, by go_num, hB.drewN _⟩
        case measure => simp [intOf]; omega
      · go_wp2
        go_ret
        exact ⟨rfl, hB⟩

end Go.Proofs.YtfipbnognjepkaaGreatDoor

/-! ### FnAvoPlain -/
namespace Go.Proofs.YtfipbnognjepkaaGreatDoor
set_option linter.unusedVariables false
set_option linter.unusedSimpArgs false

theorem hasB_nil (P : List UInt8) : hasB [] P = false := rfl
theorem hasB_app {X Y P : List UInt8} (hP : IsPL P) (h0 : P ≠ []) (h : hasB X P = true) : hasB (X ++ Y) P = true := by
  rw [hasB_iff hP h0] at h ⊢
  obtain ⟨i, m, a, f⟩ := h
  refine ⟨i, m, by rw [List.length_append]; omega, ?_⟩
  rw [List.drop_append_of_le_length (by omega), List.take_append_of_le_length (by rw [List.length_drop]; omega)]
  exact f
theorem hasB_zim {P : List UInt8} (hP : IsPL P) (h0 : P ≠ []) {m n : Nat} (h : hasB (zimL m) P = true) (hm : m ≤ n) : hasB (zimL n) P = true := by
  induction n with
  | zero =>
    obtain rfl : m = 0 := by omega
    exact h
  | succ n ih =>
    by_cases e : m = n + 1
    · subst e; exact h
    · rw [zimL]
      exact hasB_app hP h0 (ih (by omega))
theorem avW_let (P : List UInt8) (k : Nat) : ∀ (n : Nat) (l : List UInt8), ∀ s ∈ avW P k n l, ∀ b ∈ s, b ∈ l ∨ ∃ c : Nat, c < k ∧ b = letB (c : Int)
  | 0, l, s, h, b, hb => by rw [avW, List.mem_singleton] at h; subst h; exact .inl hb
  | n + 1, l, s, h, b, hb => by
    rw [avW] at h
    obtain ⟨c, hc, _, h2⟩ := avTo_mem h
    rcases avW_let P k n _ s h2 b hb with q | q
    · rw [List.mem_append, List.mem_singleton] at q
      rcases q with q | q
      · exact .inl q
      · exact .inr ⟨c, hc, q⟩
    · exact .inr q
theorem avW_word {P : List UInt8} {k n : Nat} (hk : k ≤ 3) (hn : n ≤ 12) {s : List UInt8} (h : s ∈ avW P k n []) : IsW (bt s) := by
  have hl := avW_size P k n [] s h
  refine ⟨by rw [bt_size, hl]; simp; omega, fun i hi => ?_⟩
  have key : ∀ b ∈ s, 97 ≤ b.toNat ∧ b.toNat ≤ 101 := by
    intro b hb
    rcases avW_let P k n [] s h b hb with q | ⟨c, hc, rfl⟩
    · cases q
    · have := letB_nat (n := (c : Int)) (by omega) (by omega)
      omega
  have hi' : i < s.length := by rw [bt_size] at hi; exact hi
  exact key (s[i]'hi') (List.getElem_mem hi')
theorem avW_len0 {P : List UInt8} {k n : Nat} {s : List UInt8} (h : s ∈ avW P k n []) : s.length = n := by
  have := avW_size P k n [] s h
  simpa using this
theorem headR_code (L : List (List UInt8)) : (headR L).2 = 0 ↔ L ≠ [] := by
  cases L with
  | nil => simp [headR]
  | cons s t => simp [headR]
theorem headR_none {L : List (List UInt8)} (h : (headR L).2 ≠ 0) : L = [] ∧ (headR L) = (⟨#[]⟩, 4) := by
  cases L with
  | nil => exact ⟨rfl, rfl⟩
  | cons s t => simp [headR] at h

end Go.Proofs.YtfipbnognjepkaaGreatDoor

/-! ### FnAvoGood -/
namespace Go.Proofs.YtfipbnognjepkaaGreatDoor
set_option linter.unusedVariables false
set_option linter.unusedSimpArgs false

theorem bl_btG (l : List UInt8) : bl (bt l) = l := rfl
theorem isP_ne {p : ByteArray} (h : IsP p) : bl p ≠ [] := by
  intro e
  have h1 := bl_len p
  rw [e] at h1
  have h2 := h.1
  simp at h1
  omega
theorem firstAv_cases (p : ByteArray) (k n : Int) : (∃ a b : Nat, k = (a : Int) ∧ n = (b : Int) ∧ IsP p ∧ 1 ≤ a ∧ a ≤ 3 ∧ b ≤ 12 ∧ firstAvR p k n = headR (avW (bl p) a b [])) ∨ ((firstAvR p k n).2 ≠ 0 ∧ (firstAvR p k n).2 ≠ 4 ∧ (firstAvR p k n).1 = ⟨#[]⟩) := by
  by_cases hp : IsP p
  · by_cases h : 1 ≤ k ∧ k ≤ 3 ∧ 0 ≤ n ∧ n ≤ 12
    · obtain ⟨a, rfl⟩ := Int.eq_ofNat_of_zero_le (show 0 ≤ k by omega)
      obtain ⟨b, rfl⟩ := Int.eq_ofNat_of_zero_le (show 0 ≤ n by omega)
      exact .inl ⟨a, b, rfl, rfl, hp, by omega, by omega, by omega, firstAvR_ok hp (by omega) (by omega) (by omega)⟩
    · rw [firstAvR_out hp h]; exact .inr ⟨by decide, by decide, rfl⟩
  · rw [firstAvR_bad k n hp]; exact .inr ⟨by decide, by decide, rfl⟩
theorem firstAv_good {p : ByteArray} {k n : Int} (h : (firstAvR p k n).2 = 0) : hasR (firstAvR p k n).1 p = (false, 0) ∧ ((firstAvR p k n).1.size : Int) = n ∧ (firstAvR p k n).1.size ≤ 12 := by
  rcases firstAv_cases p k n with ⟨a, b, rfl, rfl, hp, h1, h2, h3, e⟩ | ⟨h1, _, _⟩
  · rw [e] at h ⊢
    have hne := (headR_code _).1 h
    obtain ⟨s, t, hst⟩ := List.exists_cons_of_ne_nil hne
    have hs : s ∈ avW (bl p) a b [] := by rw [hst]; exact List.mem_cons_self ..
    rw [hst]
    have e1 : (headR (s :: t)).1 = bt s := rfl
    have hw := avW_word (by omega) h3 hs
    have hl := avW_len0 hs
    rw [e1, hasR_ok ⟨hw, hp⟩, bl_btG, avW_free (bl p) hp.list (isP_ne hp) a b [] (hasB_nil _) s hs, bt_size, hl]
    exact ⟨rfl, rfl, h3⟩
  · exact absurd h h1
theorem firstAv_none {p : ByteArray} {k n : Int} (h : (firstAvR p k n).2 ≠ 0) : (firstAvR p k n).1 = ⟨#[]⟩ := by
  rcases firstAv_cases p k n with ⟨a, b, rfl, rfl, hp, h1, h2, h3, e⟩ | ⟨_, _, h1⟩
  · rw [e] at h ⊢
    rw [(headR_none h).2]
  · exact h1
theorem countAv_good {p : ByteArray} {k n : Int} (h : (countAvR p k n).2 = 0) : (0 < (countAvR p k n).1 ↔ (firstAvR p k n).2 = 0) := by
  by_cases hp : IsP p
  · by_cases hr : 1 ≤ k ∧ k ≤ 3 ∧ 0 ≤ n ∧ n ≤ 9
    · obtain ⟨a, rfl⟩ := Int.eq_ofNat_of_zero_le (show 0 ≤ k by omega)
      obtain ⟨b, rfl⟩ := Int.eq_ofNat_of_zero_le (show 0 ≤ n by omega)
      rw [countAvR_ok hp (by omega) (by omega) (by omega), firstAvR_ok hp (by omega) (by omega) (by omega), headR_code]
      show 0 < ((avW (bl p) a b []).length : Int) ↔ _
      rw [← List.length_pos_iff]
      omega
    · rw [countAvR_out hp hr] at h; exact absurd h (by decide)
  · rw [countAvR_bad k n hp] at h; exact absurd h (by decide)
theorem fstA_iff (L : List (List UInt8)) : (fstA L).2 = true ↔ L ≠ [] := by
  cases L with
  | nil => simp [fstA]
  | cons s t => simp [fstA]
theorem lonA_good (P : List UInt8) (k : Nat) : ∀ (f n : Nat), avW P k n [] ≠ [] → (lonA P k f n).2 = 0 → ∃ m : Nat, (lonA P k f n).1 = (m : Int) ∧ m < n + f ∧ avW P k m [] ≠ [] ∧ avW P k (m + 1) [] = []
  | 0, n, _, h => absurd h (by rw [lonA]; decide)
  | f + 1, n, hn, h => by
    cases e : (fstA (avW P k (n + 1) [])).2 with
    | true =>
      rw [lonA_yes e] at h ⊢
      obtain ⟨m, a, b, c⟩ := lonA_good P k f (n + 1) ((fstA_iff _).1 e) h
      exact ⟨m, a, by omega, c⟩
    | false =>
      rw [lonA_no e]
      refine ⟨n, rfl, by omega, hn, ?_⟩
      cases q : avW P k (n + 1) [] with
      | nil => rfl
      | cons s t =>
        rw [q] at e
        simp [fstA] at e
theorem longAv_good {p : ByteArray} {k : Int} (h : (longAvR p k).2 = 0) : 0 ≤ (longAvR p k).1 ∧ (longAvR p k).1 ≤ 10 ∧ (firstAvR p k (longAvR p k).1).2 = 0 ∧ (firstAvR p k ((longAvR p k).1 + 1)).2 = 4 := by
  by_cases hp : IsP p
  · by_cases hr : 1 ≤ k ∧ k ≤ 2
    · obtain ⟨a, rfl⟩ := Int.eq_ofNat_of_zero_le (show 0 ≤ k by omega)
      rw [longAvR_ok hp (by omega) (by omega)] at h ⊢
      obtain ⟨m, e, hm, h1, h2⟩ := lonA_good (bl p) a 11 0 (by simp [avW]) h
      rw [e, firstAvR_ok hp (by omega) (by omega) (by omega), show (m : Int) + 1 = ((m + 1 : Nat) : Int) by omega, firstAvR_ok hp (by omega) (by omega) (by omega), h2]
      exact ⟨by omega, by omega, (headR_code _).2 h1, rfl⟩
    · rw [longAvR_out hp hr] at h; exact absurd h (by decide)
  · rw [longAvR_bad k hp] at h; exact absurd h (by decide)
theorem isW_zim3 : IsW (bt (zimL 3)) := by
  refine ⟨by decide, fun i hi => ?_⟩
  have key : ∀ b ∈ zimL 3, 97 ≤ b.toNat ∧ b.toNat ≤ 101 := by decide
  exact key ((zimL 3)[i]) (List.getElem_mem (by exact hi))
theorem una_good {p : ByteArray} (h : (unavR p).1 = true) : hasR (bt (zimL 3)) p = (true, 0) := by
  by_cases hp : IsP p
  · rw [unavR_ok hp] at h
    rw [hasR_ok ⟨isW_zim3, hp⟩, bl_btG, hasB_zim hp.list (isP_ne hp) h (vsOf_len3 _)]
  · rw [unavR_bad hp] at h; exact absurd h (by decide)
theorem zim_good {z : Int} (h : (zimR z).2 = 0) : (1 ≤ z ∧ z ≤ 5) ∧ ((zimR z).1.size : Int) + 1 = 2 ^ z.toNat := by
  by_cases hr : 1 ≤ z ∧ z ≤ 5
  · refine ⟨hr, ?_⟩
    obtain ⟨a, rfl⟩ := Int.eq_ofNat_of_zero_le (show 0 ≤ z by omega)
    rw [zimR_ok (by omega) (by omega)]
    show ((bt (zimL a)).size : Int) + 1 = 2 ^ a
    rw [bt_size]
    have := zimL_len a
    exact_mod_cast this
  · rw [zimR_out hr] at h; exact absurd h (by decide)

end Go.Proofs.YtfipbnognjepkaaGreatDoor

/-! ### AvoS -/
namespace Go.Proofs.YtfipbnognjepkaaGreatDoor
set_option linter.unusedVariables false
set_option linter.unusedSimpArgs false
open Go.RowKit

set_option maxRecDepth 100000 in
theorem l01In_av (x lo hi : Int) (w : World) : Calls Tryz.prog 66 #[.int .i64 x, .int .i64 lo, .int .i64 hi] w fun e w' => e = .returned (.bool (decide (lo ≤ x ∧ x ≤ hi))) ∧ w = w' := by
  by_cases h1 : lo ≤ x
  · by_cases h2 : x ≤ hi
    · go_enter Tryz.func66, Tryz.ntmps66
      go_wp2
      go_ret
      exact ⟨ret_bool (by simp [h1, h2]), rfl⟩
    · go_enter Tryz.func66, Tryz.ntmps66
      go_wp2
      go_ret
      exact ⟨ret_bool (by simp [h1, h2]), rfl⟩
  · go_enter Tryz.func66, Tryz.ntmps66
    go_wp2
    go_ret
    exact ⟨ret_bool (by simp [h1]; omega), rfl⟩

noncomputable def sizR (p : ByteArray) (k wide n long : Int) : Int := if IsP p then (if 1 ≤ k ∧ k ≤ wide ∧ 0 ≤ n ∧ n ≤ long then 0 else 2) else 1

set_option maxRecDepth 100000 in
set_option maxHeartbeats 1000000 in
theorem l10Sizes_any (p : ByteArray) (k wide n long : Int) (w : World) (sp : p.size ≤ maxLen) :
    Calls Tryz.prog 57 #[.string p, .int .i64 k, .int .i64 wide, .int .i64 n, .int .i64 long] w fun e w' => e = .returned (.int .i64 (sizR p k wide n long)) ∧ Below w.heap.size w w' := by
  unfold sizR
  by_cases hp : IsP p
  · rw [if_pos hp]
    have HP := Lib.hid (fun W => l10Is_yes p W hp)
    have C1 := Lib.hid (fun W => l01In_av k 1 wide W)
    have C2 := Lib.hid (fun W => l01In_av n 0 long W)
    by_cases h1 : 1 ≤ k ∧ k ≤ wide
    · have e1 : decide (1 ≤ k ∧ k ≤ wide) = true := decide_eq_true h1
      rw [e1] at C1
      by_cases h2 : 0 ≤ n ∧ n ≤ long
      · have e2 : decide (0 ≤ n ∧ n ≤ long) = true := decide_eq_true h2
        rw [e2] at C2
        rw [if_pos ⟨h1.1, h1.2, h2.1, h2.2⟩]
        clear e1 e2 h1 h2 hp sp
        go_enter Tryz.func57, Tryz.ntmps57
        go_wp2_with (first | (go_at_call 73; refine (HP.out _).mono ?_; rintro e w1 ⟨rfl, b1⟩) | (go_at_call 66; first | ((with_reducible refine (C1.out _).mono ?_); rintro e w2 ⟨rfl, rfl⟩) | ((with_reducible refine (C2.out _).mono ?_); rintro e w3 ⟨rfl, rfl⟩)))
        go_ret
        exact ⟨rfl, b1⟩
      · have e2 : decide (0 ≤ n ∧ n ≤ long) = false := decide_eq_false h2
        rw [e2] at C2
        rw [if_neg (fun e => h2 ⟨e.2.2.1, e.2.2.2⟩)]
        clear e1 e2 h1 h2 hp sp
        go_enter Tryz.func57, Tryz.ntmps57
        go_wp2_with (first | (go_at_call 73; refine (HP.out _).mono ?_; rintro e w1 ⟨rfl, b1⟩) | (go_at_call 66; first | ((with_reducible refine (C1.out _).mono ?_); rintro e w2 ⟨rfl, rfl⟩) | ((with_reducible refine (C2.out _).mono ?_); rintro e w3 ⟨rfl, rfl⟩)))
        go_ret
        exact ⟨rfl, b1⟩
    · have e1 : decide (1 ≤ k ∧ k ≤ wide) = false := decide_eq_false h1
      rw [e1] at C1
      rw [if_neg (fun e => h1 ⟨e.1, e.2.1⟩)]
      clear e1 h1 hp sp
      go_enter Tryz.func57, Tryz.ntmps57
      go_wp2_with (first | (go_at_call 73; refine (HP.out _).mono ?_; rintro e w1 ⟨rfl, b1⟩) | (go_at_call 66; refine (C1.out _).mono ?_; rintro e w2 ⟨rfl, rfl⟩))
      go_ret
      exact ⟨rfl, b1⟩
  · rw [if_neg hp]
    have HP := Lib.hid (fun W => l10Is_no p W sp hp)
    clear hp sp
    go_enter Tryz.func57, Tryz.ntmps57
    go_wp2_with (go_at_call 73; refine (HP.out _).mono ?_; rintro e w1 ⟨rfl, b1⟩)
    go_ret
    exact ⟨rfl, b1⟩

set_option maxRecDepth 100000 in
set_option maxHeartbeats 500000 in
theorem l10Count_any (p : ByteArray) (hp : IsP p) (k : Nat) (hk : k ≤ 3) : ∀ (f : Nat) (x : ByteArray) (w : World), x.size + f ≤ 12 →
    Calls Tryz.prog 62 #[.string x, .string p, .int .i64 (k : Int), .int .i64 (f : Int)] w fun e w' => e = .returned (.int .i64 ((avW (bl p) k f (bl x)).length : Int)) ∧ Below w.heap.size w w'
  | 0, x, w, hx => by
    have ha : avW (bl p) k 0 (bl x) = [bl x] := by rw [avW]
    rw [ha]
    go_enter Tryz.func62, Tryz.ntmps62
    go_wp2
    go_ret
    exact ⟨rfl, Below.refl _ _⟩
  | f + 1, x, w, hx => by
    have hf0 : (((f + 1 : Nat) : Int) == 0) = false := by rw [beq_eq_false_iff_ne]; omega
    have hl := Nat.le_trans (avW_len (bl p) k (f + 1) (bl x)) (pow_av hk (show f + 1 ≤ 12 by omega))
    obtain ⟨D, hD⟩ : ∃ D, avTo (avW (bl p) k f) (bl p) (bl x) = D := ⟨_, rfl⟩
    have ha : avW (bl p) k (f + 1) (bl x) = D k := by rw [avW, hD]
    rw [ha] at hl ⊢
    have IH := Lib.hid (l10Count_any p hp k hk f)
    have HH := Lib.hid (fun c (h : pendB (bl x ++ [letB ((c : Nat) : Int)]) (bl p) = true) => (by rw [← hD]; exact avTo_hit h : D (c + 1) = D c))
    have HM := Lib.hid (fun c (h : pendB (bl x ++ [letB ((c : Nat) : Int)]) (bl p) = false) => (by rw [← hD]; exact avTo_miss h : D (c + 1) = D c ++ avW (bl p) k f (bl x ++ [letB ((c : Nat) : Int)])))
    have HL := Lib.hid (fun c (h : c ≤ k) => (by rw [← hD]; exact avTo_le h : (D c).length ≤ (D k).length))
    have HD0 : D 0 = [] := by rw [← hD, avTo]
    obtain ⟨F, hF⟩ : ∃ F : Int, ((f + 1 : Nat) : Int) = F := ⟨_, rfl⟩
    have hfi : F - 1 = (f : Int) := by omega
    have hF1 : 1 ≤ F := by omega
    have hF2 : F ≤ 12 := by omega
    rw [hF] at hf0 ⊢
    clear hF
    have HP := Lib.hid hp
    have HX := Lib.hid hx
    have x11 : x.size ≤ 11 := by omega
    clear hD ha hp hx
    go_enter Tryz.func62, Tryz.ntmps62
    go_wp2_with fail
    go_loopw [9, 10] (fun s9 s10 wr => ∃ c : Nat, c ≤ k ∧ s9 = .int .i64 ((D c).length : Int) ∧ s10 = .int .i64 (c : Int) ∧ Below w.heap.size w wr) (fun _ s10 _ => k - (intOf s10).toNat)
    case atStart => exact ⟨0, Nat.zero_le _, by rw [HD0]; rfl, rfl, Below.refl _ _⟩
    case round =>
      obtain ⟨c, hc, rfl, rfl, hB⟩ := hrel
      by_cases hcp : c < k
      · have e1 := lt1_size c
        have LT := Lib.hid (show (⟨#[letB (c : Int)]⟩ : ByteArray) = lt1 c from rfl)
        have hsum : ∀ W, (Op.stringOp .add x (lt1 c)).run Tryz.prog W = .ok (.string (x ++ lt1 c)) W := fun W => run_string_add_sum W _ _ (by rw [lt1_size]; omega)
        have hszt := size_lt1 x c
        have hblt := bl_lt1 x c
        have CL := Lib.hid (fun W => by have h := l01Letter_any (c : Int) W (by omega) (by omega); rw [LT.out] at h; exact h)
        have CE := Lib.hid (fun W => by have q := l10Ends_any (bl (x ++ lt1 c)) (bl p) HP.out.list (bl_ne HP.out.1) (by rw [bl_len]; exact HP.out.2.1) (by rw [bl_len]; omega) W; rw [bt_bl, bt_bl] at q; exact q)
        have CI := Lib.hid (fun W => IH.out (x ++ lt1 c) W (by have := HX.out; omega))
        rw [hblt] at CE CI
        cases he : pendB (bl x ++ [letB (c : Int)]) (bl p) with
        | true =>
          rw [he] at CE
          have HD1 := Lib.hid (HH.out c he)
          clear he hszt hblt CI
          generalize lt1 c = t at *
          generalize x ++ t = y at *
          go_wp2_with (first | (go_at_call 119; refine (CL.out _).mono ?_; rintro e w1 ⟨rfl, b1⟩) | (go_at_call 120; refine (CE.out _).mono ?_; rintro e w2 ⟨rfl, b2⟩))
          go_roundw
          case rel => exact ⟨c + 1, by omega, by rw [HD1.out], by go_num, (hB.then b1).then b2⟩
          case measure => simp [intOf]; omega
        | false =>
          rw [he] at CE
          have HD1 := Lib.hid (HM.out c he)
          have hlc : (D c).length + (avW (bl p) k f (bl x ++ [letB (c : Int)])).length ≤ 531441 := by
            have := HL.out (c + 1) (by omega)
            rw [HD1.out, List.length_append] at this
            omega
          have HLc := Lib.hid (show (D (c + 1)).length = (D c).length + (avW (bl p) k f (bl x ++ [letB (c : Int)])).length by rw [HD1.out, List.length_append])
          clear he hszt hblt HD1
          generalize (avW (bl p) k f (bl x ++ [letB (c : Int)])).length = q at *
          generalize (D c).length = q0 at *
          generalize lt1 c = t at *
          generalize x ++ t = y at *
          go_wp2_with (first | (go_at_call 119; refine (CL.out _).mono ?_; rintro e w1 ⟨rfl, b1⟩) | (go_at_call 120; refine (CE.out _).mono ?_; rintro e w2 ⟨rfl, b2⟩) | (go_at_call 62; refine (CI.out _).mono ?_; rintro e w3 ⟨rfl, b3⟩))
          go_roundw
          case rel => exact ⟨c + 1, by omega, by rw [HLc.out]; go_num, by go_num, ((hB.then b1).then b2).then b3⟩
          case measure => simp [intOf]; omega
      · obtain rfl : c = k := by omega
        go_wp2_with fail
        go_ret
        exact ⟨rfl, hB⟩

set_option maxRecDepth 100000 in
set_option maxHeartbeats 500000 in
theorem l10First_any (p : ByteArray) (hp : IsP p) (k : Nat) (hk : k ≤ 3) : ∀ (f : Nat) (x : ByteArray) (w : World), x.size + f ≤ 12 →
    Calls Tryz.prog 58 #[.string x, .string p, .int .i64 (k : Int), .int .i64 (f : Int)] w fun e w' => e = .returned (.tuple #[.string (fstA (avW (bl p) k f (bl x))).1, .bool (fstA (avW (bl p) k f (bl x))).2]) ∧ Below w.heap.size w w'
  | 0, x, w, hx => by
    have ha : fstA (avW (bl p) k 0 (bl x)) = (x, true) := by rw [avW, fstA, bt_bl]
    rw [ha]
    go_enter Tryz.func58, Tryz.ntmps58
    go_wp2
    go_ret2
    exact ⟨rfl, Below.refl _ _⟩
  | f + 1, x, w, hx => by
    have hf0 : (((f + 1 : Nat) : Int) == 0) = false := by rw [beq_eq_false_iff_ne]; omega
    obtain ⟨D, hD⟩ : ∃ D, avTo (avW (bl p) k f) (bl p) (bl x) = D := ⟨_, rfl⟩
    have ha : avW (bl p) k (f + 1) (bl x) = D k := by rw [avW, hD]
    rw [ha]
    obtain ⟨R0, hR0⟩ : ∃ R0, fstA (D k) = R0 := ⟨_, rfl⟩
    rw [hR0]
    have HR0 := Lib.hid hR0
    clear hR0
    have IH := Lib.hid (l10First_any p hp k hk f)
    have HH := Lib.hid (fun c (h : pendB (bl x ++ [letB ((c : Nat) : Int)]) (bl p) = true) => (by rw [← hD]; exact avTo_hit h : D (c + 1) = D c))
    have HM := Lib.hid (fun c (h : pendB (bl x ++ [letB ((c : Nat) : Int)]) (bl p) = false) => (by rw [← hD]; exact avTo_miss h : D (c + 1) = D c ++ avW (bl p) k f (bl x ++ [letB ((c : Nat) : Int)])))
    have HPr := Lib.hid (fun c (h : c ≤ k) => (by rw [← hD]; exact avTo_pre h : ∃ t, D c ++ t = D k))
    have HD0 : D 0 = [] := by rw [← hD, avTo]
    obtain ⟨F, hF⟩ : ∃ F : Int, ((f + 1 : Nat) : Int) = F := ⟨_, rfl⟩
    have hfi : F - 1 = (f : Int) := by omega
    have hF1 : 1 ≤ F := by omega
    have hF2 : F ≤ 12 := by omega
    rw [hF] at hf0 ⊢
    clear hF
    have HP := Lib.hid hp
    have HX := Lib.hid hx
    have x11 : x.size ≤ 11 := by omega
    clear hD ha hp hx
    go_enter Tryz.func58, Tryz.ntmps58
    go_wp2_with fail
    go_loopw [10] (fun s10 wr => ∃ c : Nat, c ≤ k ∧ D c = [] ∧ s10 = .int .i64 (c : Int) ∧ Below w.heap.size w wr) (fun s10 _ => k - (intOf s10).toNat)
    case atStart => exact ⟨0, Nat.zero_le _, HD0, rfl, Below.refl _ _⟩
    case round =>
      obtain ⟨c, hc, hDc, rfl, hB⟩ := hrel
      have HDc := Lib.hid hDc
      clear hDc HD0
      by_cases hcp : c < k
      · have e1 := lt1_size c
        have LT := Lib.hid (show (⟨#[letB (c : Int)]⟩ : ByteArray) = lt1 c from rfl)
        have hsum : ∀ W, (Op.stringOp .add x (lt1 c)).run Tryz.prog W = .ok (.string (x ++ lt1 c)) W := fun W => run_string_add_sum W _ _ (by rw [lt1_size]; omega)
        have hszt := size_lt1 x c
        have hblt := bl_lt1 x c
        have CL := Lib.hid (fun W => by have h := l01Letter_any (c : Int) W (by omega) (by omega); rw [LT.out] at h; exact h)
        have CE := Lib.hid (fun W => by have q := l10Ends_any (bl (x ++ lt1 c)) (bl p) HP.out.list (bl_ne HP.out.1) (by rw [bl_len]; exact HP.out.2.1) (by rw [bl_len]; omega) W; rw [bt_bl, bt_bl] at q; exact q)
        have CI := Lib.hid (fun W => IH.out (x ++ lt1 c) W (by have := HX.out; omega))
        rw [hblt] at CE CI
        cases he : pendB (bl x ++ [letB (c : Int)]) (bl p) with
        | true =>
          rw [he] at CE
          have HD1 := Lib.hid ((HH.out c he).trans HDc.out)
          clear he hszt hblt CI
          generalize lt1 c = t at *
          generalize x ++ t = y at *
          go_wp2_with (first | (go_at_call 119; refine (CL.out _).mono ?_; rintro e w1 ⟨rfl, b1⟩) | (go_at_call 120; refine (CE.out _).mono ?_; rintro e w2 ⟨rfl, b2⟩))
          go_roundw
          case rel => exact ⟨c + 1, by omega, HD1.out, by go_num, (hB.then b1).then b2⟩
          case measure => simp [intOf]; omega
        | false =>
          rw [he] at CE
          have HD1 := Lib.hid (by have := HM.out c he; rw [HDc.out, List.nil_append] at this; exact this : D (c + 1) = avW (bl p) k f (bl x ++ [letB (c : Int)]))
          clear he hszt hblt
          generalize avW (bl p) k f (bl x ++ [letB (c : Int)]) = R at *
          generalize lt1 c = t at *
          generalize x ++ t = y at *
          cases R with
          | nil =>
            go_wp2_with (first | (go_at_call 119; refine (CL.out _).mono ?_; rintro e w1 ⟨rfl, b1⟩) | (go_at_call 120; refine (CE.out _).mono ?_; rintro e w2 ⟨rfl, b2⟩) | (go_at_call 58; refine (CI.out _).mono ?_; rintro e w3 ⟨rfl, b3⟩; simp only [fstA]))
            go_roundw
            case rel => exact ⟨c + 1, by omega, HD1.out, by go_num, ((hB.then b1).then b2).then b3⟩
            case measure => simp [intOf]; omega
          | cons s R =>
            have hfin : R0 = (bt s, true) := by
              obtain ⟨t2, ht2⟩ := HPr.out (c + 1) (by omega)
              rw [← HR0.out, ← ht2, HD1.out]
              rfl
            subst hfin
            clear HR0
            go_wp2_with (first | (go_at_call 119; refine (CL.out _).mono ?_; rintro e w1 ⟨rfl, b1⟩) | (go_at_call 120; refine (CE.out _).mono ?_; rintro e w2 ⟨rfl, b2⟩) | (go_at_call 58; refine (CI.out _).mono ?_; rintro e w3 ⟨rfl, b3⟩; simp only [fstA]))
            go_ret2
            exact ⟨rfl, ((hB.then b1).then b2).then b3⟩
      · obtain rfl : c = k := by omega
        have hfin : R0 = (⟨#[]⟩, false) := by rw [← HR0.out, HDc.out]; rfl
        subst hfin
        clear HR0
        go_wp2_with fail
        go_ret2
        exact ⟨rfl, hB⟩

end Go.Proofs.YtfipbnognjepkaaGreatDoor

/-! ### AvoT -/
namespace Go.Proofs.YtfipbnognjepkaaGreatDoor
set_option linter.unusedVariables false
set_option linter.unusedSimpArgs false
open Go.RowKit

set_option maxRecDepth 100000 in
theorem spec_CountAvoiding (p : ByteArray) (k n : Int) (w : World) (sp : p.size ≤ maxLen) :
    Calls Tryz.prog 11 #[.string p, .int .i64 k, .int .i64 n] w fun e w' => e = .returned (.tuple #[.int .i64 (countAvR p k n).1, .int .i64 (countAvR p k n).2]) ∧ Below w.heap.size w w' := by
  have CZ := Lib.hid (fun W => l10Sizes_any p k 3 n 9 W sp)
  unfold sizR at CZ
  by_cases hp : IsP p
  · rw [if_pos hp] at CZ
    by_cases h : 1 ≤ k ∧ k ≤ 3 ∧ 0 ≤ n ∧ n ≤ 9
    · rw [if_pos h] at CZ
      obtain ⟨a, rfl⟩ := Int.eq_ofNat_of_zero_le (show 0 ≤ k by omega)
      obtain ⟨b, rfl⟩ := Int.eq_ofNat_of_zero_le (show 0 ≤ n by omega)
      rw [countAvR_ok hp (by omega) (by omega) (by omega)]
      have CC := Lib.hid (fun W => l10Count_any p hp a (by omega) b ⟨#[]⟩ W (by show 0 + b ≤ 12; omega))
      clear h hp sp
      go_enter Tryz.func11, Tryz.ntmps11
      go_wp2_with (first | (go_at_call 57; refine (CZ.out _).mono ?_; rintro e w1 ⟨rfl, b1⟩) | (go_at_call 62; refine (CC.out _).mono ?_; rintro e w2 ⟨rfl, b2⟩))
      go_ret2
      exact ⟨rfl, b1.then b2⟩
    · rw [if_neg h] at CZ
      rw [countAvR_out hp h]
      clear h hp sp
      go_enter Tryz.func11, Tryz.ntmps11
      go_wp2_with (go_at_call 57; refine (CZ.out _).mono ?_; rintro e w1 ⟨rfl, b1⟩)
      go_ret2
      exact ⟨rfl, b1⟩
  · rw [if_neg hp] at CZ
    rw [countAvR_bad k n hp]
    clear hp sp
    go_enter Tryz.func11, Tryz.ntmps11
    go_wp2_with (go_at_call 57; refine (CZ.out _).mono ?_; rintro e w1 ⟨rfl, b1⟩)
    go_ret2
    exact ⟨rfl, b1⟩

set_option maxRecDepth 100000 in
theorem spec_FirstAvoiding (p : ByteArray) (k n : Int) (w : World) (sp : p.size ≤ maxLen) :
    Calls Tryz.prog 8 #[.string p, .int .i64 k, .int .i64 n] w fun e w' => e = .returned (.tuple #[.string (firstAvR p k n).1, .int .i64 (firstAvR p k n).2]) ∧ Below w.heap.size w w' := by
  have CZ := Lib.hid (fun W => l10Sizes_any p k 3 n 12 W sp)
  unfold sizR at CZ
  by_cases hp : IsP p
  · rw [if_pos hp] at CZ
    by_cases h : 1 ≤ k ∧ k ≤ 3 ∧ 0 ≤ n ∧ n ≤ 12
    · rw [if_pos h] at CZ
      obtain ⟨a, rfl⟩ := Int.eq_ofNat_of_zero_le (show 0 ≤ k by omega)
      obtain ⟨b, rfl⟩ := Int.eq_ofNat_of_zero_le (show 0 ≤ n by omega)
      rw [firstAvR_ok hp (by omega) (by omega) (by omega)]
      have CC := Lib.hid (fun W => (l10First_any p hp a (by omega) b ⟨#[]⟩ W (by show 0 + b ≤ 12; omega)))
      have e0 : bl (⟨#[]⟩ : ByteArray) = [] := rfl
      rw [e0] at CC
      generalize avW (bl p) a b [] = D at *
      clear h hp sp e0
      cases D with
      | nil =>
        go_enter Tryz.func8, Tryz.ntmps8
        go_wp2_with (first | (go_at_call 57; refine (CZ.out _).mono ?_; rintro e w1 ⟨rfl, b1⟩) | (go_at_call 58; refine (CC.out _).mono ?_; rintro e w2 ⟨rfl, b2⟩; simp only [fstA]))
        go_ret2
        exact ⟨rfl, b1.then b2⟩
      | cons s D =>
        go_enter Tryz.func8, Tryz.ntmps8
        go_wp2_with (first | (go_at_call 57; refine (CZ.out _).mono ?_; rintro e w1 ⟨rfl, b1⟩) | (go_at_call 58; refine (CC.out _).mono ?_; rintro e w2 ⟨rfl, b2⟩; simp only [fstA]))
        go_ret2
        exact ⟨rfl, b1.then b2⟩
    · rw [if_neg h] at CZ
      rw [firstAvR_out hp h]
      clear h hp sp
      go_enter Tryz.func8, Tryz.ntmps8
      go_wp2_with (go_at_call 57; refine (CZ.out _).mono ?_; rintro e w1 ⟨rfl, b1⟩)
      go_ret2
      exact ⟨rfl, b1⟩
  · rw [if_neg hp] at CZ
    rw [firstAvR_bad k n hp]
    clear hp sp
    go_enter Tryz.func8, Tryz.ntmps8
    go_wp2_with (go_at_call 57; refine (CZ.out _).mono ?_; rintro e w1 ⟨rfl, b1⟩)
    go_ret2
    exact ⟨rfl, b1⟩

/-! ### The longest. -/
set_option maxRecDepth 100000 in
set_option maxHeartbeats 2000000 in
theorem spec_LongestAvoiding (p : ByteArray) (k : Int) (w : World) (sp : p.size ≤ maxLen) :
    Calls Tryz.prog 14 #[.string p, .int .i64 k] w fun e w' => e = .returned (.tuple #[.int .i64 (longAvR p k).1, .int .i64 (longAvR p k).2]) ∧ Below w.heap.size w w' := by
  have CZ := Lib.hid (fun W => l10Sizes_any p k 2 0 0 W sp)
  unfold sizR at CZ
  by_cases hp : IsP p
  · rw [if_pos hp] at CZ
    by_cases h : 1 ≤ k ∧ k ≤ 2
    · rw [if_pos ⟨h.1, h.2, Int.le_refl _, Int.le_refl _⟩] at CZ
      obtain ⟨a, rfl⟩ := Int.eq_ofNat_of_zero_le (show 0 ≤ k by omega)
      rw [longAvR_ok hp (by omega) (by omega)]
      have CC := Lib.hid (fun (b : Nat) (hb : b ≤ 12) W => (l10First_any p hp a (by omega) b ⟨#[]⟩ W (by show 0 + b ≤ 12; omega)))
      have e0 : bl (⟨#[]⟩ : ByteArray) = [] := rfl
      rw [e0] at CC
      obtain ⟨R, hR⟩ : ∃ R, lonA (bl p) a 11 0 = R := ⟨_, rfl⟩
      rw [hR]
      have HR := Lib.hid hR
      clear h hp sp e0 hR
      go_enter Tryz.func14, Tryz.ntmps14
      go_wp2_with (go_at_call 57; refine (CZ.out _).mono ?_; rintro e w1 ⟨rfl, b1⟩)
      go_loopg [7] 11 (fun g s7 wr => ∃ c : Nat, c + g = 11 ∧ s7 = .int .i64 ((c : Int) + 1) ∧ Below w.heap.size w wr ∧ Hid (lonA (bl p) a g c = R))
      case atStart => exact ⟨0, rfl, rfl, b1, HR⟩
      case round =>
        obtain ⟨c, hc, rfl, hB, HL⟩ := hrel
        clear HR b1
        by_cases hcp : c < 11
        · obtain ⟨g, rfl⟩ : ∃ g, gk = g + 1 := ⟨gk - 1, by omega⟩
          have CF := CC.out (c + 1) (by omega)
          rw [show ((c + 1 : Nat) : Int) = (c : Int) + 1 by omega] at CF
          have CFF := Lib.hid CF
          clear CF
          have hlo : (c : Int) + 1 ≤ 11 := by omega
          cases he : (fstA (avW (bl p) a (c + 1) [])).2 with
          | true =>
            have HL2 := Lib.hid ((lonA_yes he).symm.trans HL.out)
            rw [he] at CFF
            clear he
            generalize (fstA (avW (bl p) a (c + 1) [])).1 = s at *
            go_wp2_with (go_at_call 58; refine (CFF.out _).mono ?_; rintro e w2 ⟨rfl, b2⟩)
            go_roundg g
            case measure => omega
            case rel => exact ⟨c + 1, by omega, by go_num, hB.then b2, HL2⟩
          | false =>
            have HL2 : R = ((c : Int), 0) := (HL.out.symm.trans (lonA_no he))
            rw [he] at CFF
            subst HL2
            clear he HL
            generalize (fstA (avW (bl p) a (c + 1) [])).1 = s at *
            go_wp2_with (go_at_call 58; refine (CFF.out _).mono ?_; rintro e w2 ⟨rfl, b2⟩)
            go_ret2
            exact ⟨by congr 3 <;> simp, hB.then b2⟩
        · obtain rfl : gk = 0 := by omega
          have HL2 : R = (0, 4) := HL.out.symm
          subst HL2
          clear HL
          have hlo : ¬ (c : Int) + 1 ≤ 11 := by omega
          go_wp2_with fail
          go_ret2
          exact ⟨rfl, hB⟩
    · rw [if_neg (fun e => h ⟨e.1, e.2.1⟩)] at CZ
      rw [longAvR_out hp h]
      clear h hp sp
      go_enter Tryz.func14, Tryz.ntmps14
      go_wp2_with (go_at_call 57; refine (CZ.out _).mono ?_; rintro e w1 ⟨rfl, b1⟩)
      go_ret2
      exact ⟨rfl, b1⟩
  · rw [if_neg hp] at CZ
    rw [longAvR_bad k hp]
    clear hp sp
    go_enter Tryz.func14, Tryz.ntmps14
    go_wp2_with (go_at_call 57; refine (CZ.out _).mono ?_; rintro e w1 ⟨rfl, b1⟩)
    go_ret2
    exact ⟨rfl, b1⟩

end Go.Proofs.YtfipbnognjepkaaGreatDoor
