/- The model's draws of words and patterns; its search for lists of lengths; its first place. -/
import Derived.WalkKit
import Derived.Test.YtfipbnognjepkaaDoorInts
import Derived.RegionTactic
import Derived.Deep.RegionWith
import Derived.Deep.LoopGhost
import Derived.Outline
import Derived.Test.YtfipbnognjepkaaDoorLetter
import Derived.Test.YtfipbnognjepkaaDoorOwn
import Derived.Test.YtfipbnognjepkaaDoorW16
import Derived.BigRegion
import Derived.RangeFuncBox
import Derived.Deep.QuietTactic
import Derived.BigQuiet
import Derived.Test.YtfipbnognjepkaaDoorPatPlain
import Derived.Test.YtfipbnognjepkaaDoorPatT
import Derived.Test.YtfipbnognjepkaaDoorLonger
import Derived.WalkSmall
import Derived.Test.YtfipbnognjepkaaDoorPlcR
import Derived.Test.YtfipbnognjepkaaDoorPlcPlain
import Derived.Test.YtfipbnognjepkaaDoorSqPlain
import Derived.Test.YtfipbnognjepkaaDoorStrs

/-! ### IsRow -/
namespace Go.Proofs.YtfipbnognjepkaaDoor
set_option linter.unusedVariables false
open Go.RowKit
/-- It is nil; or it leads to a row of 'cap' cells, the numbers 'zs' (the first 'len' are its elements), each fitting its kind. -/
def IsRow (k : IntKind) (w : World) (a : Option Addr) (len cap : Nat) (zs : List Int) : Prop :=
  (a = none ∧ len = 0 ∧ cap = 0 ∧ zs = []) ∨
  ∃ x, a = some x ∧ len ≤ cap ∧ cap ≤ maxLen ∧ zs.length = cap ∧ (∀ i, i < zs.length → w.cell? (x.add i) = some (.int k (zs.getD i 0))) ∧ ∀ n ∈ zs, (Lit.int k n).wf = true
theorem IsRow.below {k : IntKind} {w w' : World} {a : Option Addr} {len cap : Nat} {zs : List Int} (h : IsRow k w a len cap zs) (b : Below w.heap.size w w') : IsRow k w' a len cap zs := by
  rcases h with h | ⟨x, h1, h2, h3, h4, h5, h6⟩
  · exact .inl h
  · exact .inr ⟨x, h1, h2, h3, h4, fun i hi => by rw [b.cell (World.block_lt_of_cell? _ _ (h5 i hi))]; exact h5 i hi, h6⟩
theorem IsRow.len_le {k : IntKind} {w : World} {a : Option Addr} {len cap : Nat} {zs : List Int} (h : IsRow k w a len cap zs) : len ≤ 9223372036854775807 := by
  rcases h with ⟨_, h, _⟩ | ⟨x, h1, h2, h3, _⟩
  · omega
  · unfold maxLen at h3; omega
end Go.Proofs.YtfipbnognjepkaaDoor

/-! ### Src -/
namespace Go.Proofs.YtfipbnognjepkaaDoor
set_option linter.unusedVariables false
set_option linter.unusedSimpArgs false
open Go.RowKit

/-- A source of draws in a block of the call's own: a row of bytes that came in, a place in it, a number. -/
def Src (w0 W : World) (b : Nat) : Prop := ∃ (a : Option Addr) (len cap : Nat) (zs : List Int) (p : Nat) (h : Int),
  W.heap[b]? = some (.cells #[.slice a len cap, .int .i64 (p : Int), .int .u64 h] 147) ∧ IsRow .u8 w0 a len cap zs ∧ p ≤ len ∧ len ≤ 1048576 ∧ 0 ≤ h ∧ h < 18446744073709551616 ∧ w0.heap.size ≤ b

theorem wrap_u64 (y : Int) : IntKind.u64.wrap y = y % 18446744073709551616 := by
  unfold IntKind.wrap
  simp [show IntKind.u64.signed = false from rfl, show IntKind.u64.bits = 64 from rfl]
theorem wrap_in (y : Int) : 0 ≤ IntKind.u64.wrap y ∧ IntKind.u64.wrap y < 18446744073709551616 := by
  rw [wrap_u64]
  omega
theorem and_bound (y : Int) : 0 ≤ wrap64 (bits .and .u64 y 16777215) ∧ wrap64 (bits .and .u64 y 16777215) ≤ 16777215 := by
  have h : bits .and .u64 y 16777215 = IntKind.u64.wrap ((BitVec.ofInt 64 y &&& BitVec.ofInt 64 16777215).toNat : Int) := rfl
  have h2 : (BitVec.ofInt 64 y &&& BitVec.ofInt 64 16777215).toNat ≤ 16777215 := by
    rw [BitVec.toNat_and]
    exact Nat.le_trans Nat.and_le_right (by decide)
  rw [h, wrap_u64]
  unfold wrap64
  omega
/-- The three cells of a source. -/
theorem src_cells {W : World} {b : Nat} {x y z : Value} {t : TypeId} (hb : W.heap[b]? = some (.cells #[x, y, z] t)) :
    W.cell? ⟨b, 0, none⟩ = some x ∧ W.cell? ⟨b, 1, none⟩ = some y ∧ W.cell? ⟨b, 2, none⟩ = some z ∧ W.frozen? ⟨b, 0, none⟩ = false ∧ W.frozen? ⟨b, 1, none⟩ = false ∧ W.frozen? ⟨b, 2, none⟩ = false := by
  simp [World.cell?, World.frozen?, hb]
theorem src_set2 {W : World} {b : Nat} {x y z : Value} {t : TypeId} (hb : W.heap[b]? = some (.cells #[x, y, z] t)) (v : Value) : (W.setCell ⟨b, 2, none⟩ v).heap[b]? = some (.cells #[x, y, v] t) := by
  obtain ⟨hlt, hk⟩ := Array.getElem?_eq_some_iff.1 hb
  show (W.heap.modify b _)[b]? = _
  rw [Array.getElem?_eq_getElem (by rw [Array.size_modify]; exact hlt), Array.getElem_modify_self, hk]
  rfl
theorem src_set1 {W : World} {b : Nat} {x y z : Value} {t : TypeId} (hb : W.heap[b]? = some (.cells #[x, y, z] t)) (v : Value) : (W.setCell ⟨b, 1, none⟩ v).heap[b]? = some (.cells #[x, v, z] t) := by
  obtain ⟨hlt, hk⟩ := Array.getElem?_eq_some_iff.1 hb
  show (W.heap.modify b _)[b]? = _
  rw [Array.getElem?_eq_getElem (by rw [Array.size_modify]; exact hlt), Array.getElem_modify_self, hk]
  rfl
theorem grown_set0 {w w' : World} {g : Nat} (h : w.grownBy w' (some g)) (j : Nat) (u : Value) : w.grownBy (w'.setCell ⟨g, j, none⟩ u) (some g) := grown_set h j u
theorem grown_drewN {w w' : World} {r : Option Nat} (h : w.grownBy w' r) (n : Nat) : w.grownBy (w'.drewN n) r := ⟨h.os, h.tape, h.output, h.size, h.block⟩

set_option maxRecDepth 100000 in
set_option maxHeartbeats 1000000 in
theorem l01Next_any (w0 W : World) (b : Nat) (n : Int) (hS : Src w0 W b) (hB : Below w0.heap.size w0 W) (hn : n ≤ 4611686018427387904) (hn2 : -4611686018427387905 ≤ n) :
    Calls Tryd.prog 79 #[.pointer (some ⟨b, 0, none⟩), .int .i64 n] W fun e W' => ∃ v : Int, e = .returned (.int .i64 v) ∧ (n < 1 → v = 0) ∧ (1 ≤ n → 0 ≤ v ∧ v < n) ∧ Src w0 W' b ∧ W.grownBy W' (some b) := by
  by_cases h1 : n < 1
  · have HS := Lib.hid hS
    clear hS
    go_enter Tryd.func79, Tryd.ntmps79
    go_wp2
    go_ret
    exact ⟨0, rfl, fun _ => rfl, fun h => by omega, HS.out, grown_refl _ _⟩
  · obtain ⟨a, len, cap, zs, p, h, hb, hR, hp, hl, h0, h64, hwb⟩ := hS
    have c0 : W.cell? ⟨b, 0, none⟩ = some (.slice a len cap) := by simp [World.cell?, hb]
    have c1 : W.cell? ⟨b, 1, none⟩ = some (.int .i64 (p : Int)) := by simp [World.cell?, hb]
    have c2 : W.cell? ⟨b, 2, none⟩ = some (.int .u64 h) := by simp [World.cell?, hb]
    have f1 : W.frozen? ⟨b, 1, none⟩ = false := by simp [World.frozen?, hb]
    have f2 : W.frozen? ⟨b, 2, none⟩ = false := by simp [World.frozen?, hb]
    have hw1 := wrap_in (IntKind.u64.wrap (h * 6364136223846793005) + 1442695040888963407)
    have hbd := and_bound (IntKind.u64.wrap (IntKind.u64.wrap (h * 6364136223846793005) + 1442695040888963407) / 8589934592)
    by_cases hpl : p < len
    · obtain ⟨y, rfl, hz1, hz2, hcell, hwf⟩ : ∃ y, a = some y ∧ p < cap ∧ cap ≤ maxLen ∧ w0.cell? (y.add p) = some (.int .u8 (zs.getD p 0)) ∧ (0 ≤ zs.getD p 0 ∧ zs.getD p 0 ≤ 255) := by
        rcases hR with ⟨_, h2, _⟩ | ⟨y, h2, h3, h4, h5, h6, h7⟩
        · omega
        · refine ⟨y, h2, by omega, h4, h6 p (by omega), ?_⟩
          have hm := h7 (zs.getD p 0) (by rw [List.getD_eq_getElem?_getD, List.getElem?_eq_getElem (by omega)]; exact List.getElem_mem _)
          have : (IntKind.u8.min ≤ zs.getD p 0 ∧ zs.getD p 0 ≤ IntKind.u8.max) := by simpa [Lit.wf] using hm
          exact this
      have HR := Lib.hid hR
      clear hR
      generalize zs.getD p 0 = z at *
      go_enter Tryd.func79, Tryd.ntmps79
      go_wp2
      generalize wrap64 (bits .and .u64 (IntKind.u64.wrap (IntKind.u64.wrap (h * 6364136223846793005) + 1442695040888963407) / 8589934592) 16777215) = x at hbd ⊢
      generalize hh : IntKind.u64.wrap (IntKind.u64.wrap (h * 6364136223846793005) + 1442695040888963407) = h2 at hw1 ⊢
      have hb2 := src_set2 hb (.int .u64 h2)
      have hg2 := grown_set (grown_refl W (some b)) 2 (.int .u64 h2)
      have hB2 := hB.grown hg2 hB.size (fun k e => by cases e; exact hwb)
      have hzc : (W.setCell ⟨b, 2, none⟩ (.int .u64 h2)).cell? (y.add p) = some (.int .u8 z) := by rw [hB2.cell (World.block_lt_of_cell? _ _ hcell)]; exact hcell
      clear c0 c1 c2 f1 f2 hb hcell
      generalize W.setCell ⟨b, 2, none⟩ (.int .u64 h2) = W1 at hb2 hg2 hB2 hzc ⊢
      obtain ⟨c0, c1, c2, f0, f1, f2⟩ := src_cells hb2
      have hpl2 : (p : Int) < (len : Int) := by omega
      go_quiet (fail)
      go_wp2
      go_quiet (fail)
      go_wp2
      go_ret
      exact ⟨(x + z) % n, rfl, fun h => by omega, fun _ => ⟨Int.emod_nonneg _ (by omega), Int.emod_lt_of_pos _ (by omega)⟩, ⟨some y, len, cap, zs, p + 1, h2, by rw [show ((p + 1 : Nat) : Int) = (p : Int) + 1 by omega]; exact src_set1 hb2 _, HR.out, by omega, hl, hw1.1, hw1.2, hwb⟩, grown_set (grown_drewN hg2 _) 1 _⟩
    · go_enter Tryd.func79, Tryd.ntmps79
      go_wp2
      generalize wrap64 (bits .and .u64 (IntKind.u64.wrap (IntKind.u64.wrap (h * 6364136223846793005) + 1442695040888963407) / 8589934592) 16777215) = x at hbd ⊢
      generalize hh : IntKind.u64.wrap (IntKind.u64.wrap (h * 6364136223846793005) + 1442695040888963407) = h2 at hw1 ⊢
      have hb2 := src_set2 hb (.int .u64 h2)
      have hg2 := grown_set (grown_refl W (some b)) 2 (.int .u64 h2)
      clear c0 c1 c2 f1 f2 hb
      generalize W.setCell ⟨b, 2, none⟩ (.int .u64 h2) = W1 at hb2 hg2 ⊢
      obtain ⟨c0, c1, c2, f0, f1, f2⟩ := src_cells hb2
      have hpl2 : ¬ (p : Int) < (len : Int) := by omega
      go_quiet (fail)
      go_wp2
      go_ret
      exact ⟨x % n, rfl, fun h => by omega, ⟨Int.emod_nonneg _ (by omega), Int.emod_lt_of_pos _ (by omega)⟩, ⟨a, len, cap, zs, p, h2, hb2, hR, hp, hl, hw1.1, hw1.2, hwb⟩, grown_drewN hg2 _⟩

end Go.Proofs.YtfipbnognjepkaaDoor

/-! ### Draw -/
namespace Go.Proofs.YtfipbnognjepkaaDoor
set_option linter.unusedVariables false
set_option linter.unusedSimpArgs false
open Go.RowKit

theorem Src.lt {w0 W : World} {b : Nat} (h : Src w0 W b) : b < W.heap.size := by
  obtain ⟨_, _, _, _, _, _, hb, _⟩ := h
  exact (Array.getElem?_eq_some_iff.1 hb).1
theorem Src.ge {w0 W : World} {b : Nat} (h : Src w0 W b) : w0.heap.size ≤ b := by
  obtain ⟨_, _, _, _, _, _, _, _, _, _, _, _, h⟩ := h
  exact h
theorem Src.below {w0 W W' : World} {b : Nat} (h : Src w0 W b) (k : Below W.heap.size W W') : Src w0 W' b := by
  have hl := h.lt
  obtain ⟨a, len, cap, zs, p, q, hb, r⟩ := h
  exact ⟨a, len, cap, zs, p, q, by rw [k.block b hl]; exact hb, r⟩
theorem grown_of_below {W W' : World} (k : Below W.heap.size W W') (r : Option Nat) : W.grownBy W' r := ⟨k.os, k.tape, k.output, k.size, fun j hj _ => k.block j hj⟩
theorem grown_trans {A B C : World} {r : Option Nat} (h : A.grownBy B r) (k : B.grownBy C r) : A.grownBy C r :=
  ⟨k.os.trans h.os, k.tape.trans h.tape, k.output.trans h.output, Nat.le_trans h.size k.size, fun j hj hne => (k.block j (Nat.lt_of_lt_of_le hj h.size) hne).trans (h.block j hj hne)⟩
theorem below_src {w0 W W' : World} {b : Nat} (hB : Below w0.heap.size w0 W) (hb : w0.heap.size ≤ b) (g : W.grownBy W' (some b)) : Below w0.heap.size w0 W' :=
  hB.grown g hB.size (fun k e => by cases e; exact hb)

theorem grown_cell {W W1 : World} {r : Option Nat} (g : W.grownBy W1 r) {p : Addr} (hp : p.block < W.heap.size) (hne : some p.block ≠ r) : W1.cell? p = W.cell? p := by
  unfold World.cell?
  rw [g.block _ hp hne]
/-- What a drawing function that hands back a text comes to: some text of at most N bytes. -/
def DrawnT (N : Nat) (w0 W : World) (b : Nat) (e : Ending) (W' : World) : Prop := ∃ x : ByteArray, e = .returned (.string x) ∧ x.size ≤ N ∧ Src w0 W' b ∧ W.grownBy W' (some b)
def DrawnI (lo hi : Int) (w0 W : World) (b : Nat) (e : Ending) (W' : World) : Prop := ∃ v : Int, e = .returned (.int .i64 v) ∧ lo ≤ v ∧ v ≤ hi ∧ Src w0 W' b ∧ W.grownBy W' (some b)

/-- The next number. -/
theorem l01Next_i (w0 W : World) (b : Nat) (n : Int) (hS : Src w0 W b) (hB : Below w0.heap.size w0 W) (h1 : 1 ≤ n) (hn : n ≤ 4611686018427387904) :
    Calls Tryd.prog 79 #[.pointer (some ⟨b, 0, none⟩), .int .i64 n] W (DrawnI 0 (n - 1) w0 W b) := by
  refine (l01Next_any w0 W b n hS hB hn (by omega)).mono ?_
  rintro e W' ⟨v, rfl, _, h2, h3, h4⟩
  have h5 := h2 h1
  exact ⟨v, rfl, h5.1, by omega, h3, h4⟩
theorem l01Next_0 (w0 W : World) (b : Nat) (n : Int) (hS : Src w0 W b) (hB : Below w0.heap.size w0 W) (h1 : 0 ≤ n) (hn : n ≤ 4611686018427387904) :
    Calls Tryd.prog 79 #[.pointer (some ⟨b, 0, none⟩), .int .i64 n] W (DrawnI 0 n w0 W b) := by
  refine (l01Next_any w0 W b n hS hB hn (by omega)).mono ?_
  rintro e W' ⟨v, rfl, h1', h2, h3, h4⟩
  refine ⟨v, rfl, ?_, ?_, h3, h4⟩
  · by_cases h : n < 1
    · rw [h1' h]; exact Int.le_refl _
    · exact (h2 (by omega)).1
  · by_cases h : n < 1
    · rw [h1' h]; omega
    · have := (h2 (by omega)).2; omega

theorem cells_new_ints (W : World) (xs : List Int) (t : TypeId) : ∀ j (h : j < xs.length), (W.alloc (.cells (xs.map (Value.int .i64)).toArray t)).cell? ⟨W.heap.size, j, none⟩ = some (.int .i64 (xs[j]'h)) := by
  intro j h
  rw [World.cell?_alloc_new]
  simp [h]

set_option maxRecDepth 100000 in
theorem l01Pick_any (w0 W : World) (b g : Nat) (xs : List Int) (hS : Src w0 W b) (hB : Below w0.heap.size w0 W) (hg : g < W.heap.size) (hgb : g ≠ b) (h0 : 0 < xs.length) (hn : xs.length ≤ 60)
    (hc : ∀ j (h : j < xs.length), W.cell? ⟨g, j, none⟩ = some (.int .i64 (xs[j]'h))) :
    Calls Tryd.prog 115 #[.pointer (some ⟨b, 0, none⟩), .slice (some ⟨g, 0, none⟩) xs.length xs.length] W fun e W' => ∃ v : Int, e = .returned (.int .i64 v) ∧ v ∈ xs ∧ Src w0 W' b ∧ W.grownBy W' (some b) := by
  have CN := Lib.hid (l01Next_i w0 W b xs.length hS hB (by omega) (by omega))
  have HC := Lib.hid hc
  clear hc hS
  go_enter Tryd.func115, Tryd.ntmps115
  go_wp2_with fail
  refine CN.out.mono ?_
  rintro e W1 ⟨v, rfl, v0, v1, s1, g1⟩
  obtain ⟨m, rfl⟩ := Int.eq_ofNat_of_zero_le v0
  have hm : m < xs.length := by omega
  have k1 : W1.cell? ⟨g, m, none⟩ = some (.int .i64 (xs[m]'hm)) := by
    rw [grown_cell g1 (p := ⟨g, m, none⟩) hg (fun e => hgb (Option.some.inj e))]; exact HC.out m hm
  have HM := Lib.hid (List.getElem_mem hm)
  generalize xs[m]'hm = z at k1 HM
  go_wp2
  go_ret
  exact ⟨z, rfl, HM.out, s1, g1⟩

set_option maxRecDepth 100000 in
set_option maxHeartbeats 1000000 in
theorem l01DrawOf_any (w0 W : World) (b : Nat) (n k : Int) (hS : Src w0 W b) (hB : Below w0.heap.size w0 W) (hn : n ≤ 100) (hn0 : 0 ≤ n) (hk1 : 1 ≤ k) (hk5 : k ≤ 5) :
    Calls Tryd.prog 113 #[.pointer (some ⟨b, 0, none⟩), .int .i64 n, .int .i64 k] W fun e W' => ∃ x : ByteArray, e = .returned (.string x) ∧ (x.size : Int) = n ∧ Src w0 W' b ∧ W.grownBy W' (some b) := by
  have HB0 := hS.ge
  obtain ⟨N, rfl⟩ := Int.eq_ofNat_of_zero_le hn0
  go_enter Tryd.func113, Tryd.ntmps113
  go_wp2
  go_loopg [7, 8] N (fun g s7 s8 wr => ∃ (j : Nat) (x : ByteArray), j + g = N ∧ x.size = j ∧ s7 = .string x ∧ s8 = .int .i64 (j : Int) ∧ Src w0 wr b ∧ W.grownBy wr (some b))
  case atStart => exact ⟨0, ⟨#[]⟩, by omega, rfl, rfl, rfl, hS, grown_refl _ _⟩
  case round =>
    clear hS
    obtain ⟨j, x, hj, hx, rfl, rfl, hS, hG⟩ := hrel
    by_cases hp : j < N
    · obtain ⟨g, rfl⟩ : ∃ g, gk = g + 1 := ⟨gk - 1, by omega⟩
      have hB1 := below_src hB HB0 hG
      have CN := Lib.hid (l01Next_i w0 wr b k hS hB1 hk1 (by omega))
      clear hS
      go_wp2_with fail
      refine CN.out.mono ?_
      rintro e W1 ⟨v, rfl, v0, v1, s1, g1⟩
      go_wp2_with fail
      refine (l01Letter_any v _ v0 (by omega)).mono ?_
      rintro e W2 ⟨rfl, b2⟩
      have e1 : (⟨#[letB v]⟩ : ByteArray).size = 1 := rfl
      generalize (⟨#[letB v]⟩ : ByteArray) = t at *
      have hsum : ∀ W, (Op.stringOp .add x t).run Tryd.prog W = .ok (.string (x ++ t)) W := fun W => run_string_add_sum W x t (by omega)
      have s2 := s1.below b2
      have g2 := grown_trans (grown_trans hG g1) (grown_of_below b2 (some b))
      have hz : (x ++ t).size = j + 1 := by rw [ByteArray.size_append]; omega
      go_wp2_with fail
      go_roundg g
      case measure => omega
      case rel => exact ⟨j + 1, x ++ t, by omega, hz, rfl, by go_num, s2, g2⟩
    · have hN : Hid (j = N) := Lib.hid (by omega)
      go_wp2
      go_ret
      exact ⟨x, rfl, by have := hN.out; omega, hS, hG⟩

set_option maxRecDepth 100000 in
set_option maxHeartbeats 1000000 in
theorem l01Small_any (w0 W : World) (b : Nat) (hS : Src w0 W b) (hB : Below w0.heap.size w0 W) :
    Calls Tryd.prog 138 #[.pointer (some ⟨b, 0, none⟩)] W (DrawnT 10 w0 W b) := by
  have HB0 := hS.ge
  have CN := Lib.hid (l01Next_i w0 W b 11 hS hB (by omega) (by omega))
  clear hS
  go_enter Tryd.func138, Tryd.ntmps138
  go_wp2_with fail
  refine CN.out.mono ?_
  rintro e W1 ⟨v, rfl, v0, v1, s1, g1⟩
  have hB1 := below_src hB HB0 g1
  have hbl := s1.lt
  go_wp2_with fail
  refine (l01Pick_any w0 _ b _ [1, 2, 2, 2, 3, 5] (s1.below (Below.new _ _)) (hB1.alloc hB1.size _) (by simp) (by omega) (by decide) (by decide) (cells_new_ints W1 [1, 2, 2, 2, 3, 5] _)).mono ?_
  rintro e W2 ⟨k, rfl, hk, s2, g2⟩
  have hB2 := below_src (hB1.alloc hB1.size _) HB0 g2
  have hk2 : 1 ≤ k ∧ k ≤ 5 := by simp at hk; omega
  have g3 := grown_trans g1 (grown_trans (grown_of_below (Below.new W1 _) (some b)) g2)
  clear hk
  go_wp2_with fail
  refine (l01DrawOf_any w0 _ b v k s2 hB2 (by omega) v0 hk2.1 hk2.2).mono ?_
  rintro e W3 ⟨x, rfl, hx, s3, g4⟩
  go_wp2_with fail
  go_ret
  exact ⟨x, rfl, by omega, s3, grown_trans g3 g4⟩

end Go.Proofs.YtfipbnognjepkaaDoor

/-! ### Draw2 -/
namespace Go.Proofs.YtfipbnognjepkaaDoor
set_option linter.unusedVariables false
set_option linter.unusedSimpArgs false
open Go.RowKit

set_option maxRecDepth 100000 in
set_option maxHeartbeats 2000000 in
theorem l01From_any (a : Option Addr) (len cap : Nat) (zs : List Int) (w : World) (h : IsRow .u8 w a len cap zs) (hl : len ≤ 1048576) :
    Calls Tryd.prog 78 #[.slice a len cap] w fun e w' => e = .returned (.pointer (some ⟨w.heap.size, 0, none⟩)) ∧ Src w w' w.heap.size ∧ Below w.heap.size w w' := by
  have HR := Lib.hid h
  have hby : ∀ j, j < len → ∃ y z, a = some y ∧ j < cap ∧ w.cell? (y.add j) = some (.int .u8 z) ∧ 0 ≤ z ∧ z ≤ 255 := by
    intro j hj
    rcases h with ⟨_, h2, _⟩ | ⟨y, h2, h3, h4, h5, h6, h7⟩
    · omega
    · have hm := h7 (zs.getD j 0) (by rw [List.getD_eq_getElem?_getD, List.getElem?_eq_getElem (by omega)]; exact List.getElem_mem _)
      have : (IntKind.u8.min ≤ zs.getD j 0 ∧ zs.getD j 0 ≤ IntKind.u8.max) := by simpa [Lit.wf] using hm
      exact ⟨y, _, h2, by omega, h6 j (by omega), this.1, this.2⟩
  have HY := Lib.hid hby
  clear h hby
  go_enter Tryd.func78, Tryd.ntmps78
  go_wp2
  go_loopg [4] len (fun g s4 wr => ∃ (j : Nat) (q : Int), j + g = len ∧ s4 = .int .i64 (j : Int) ∧ wr.heap[w.heap.size]? = some (.cells #[.slice a len cap, .int .i64 0, .int .u64 q] 147) ∧ 0 ≤ q ∧ q < 18446744073709551616 ∧ Below w.heap.size w wr)
  case atStart =>
    refine ⟨0, _, by omega, rfl, World.alloc_heap_new w _, ?_, ?_, Below.new _ _⟩
    · omega
    · omega
  case round =>
    obtain ⟨j, q, hj, rfl, hb, q0, q1, hB⟩ := hrel
    by_cases hp : j < len
    · by_cases hp2 : (j : Int) < 4096
      · obtain ⟨g, rfl⟩ : ∃ g, gk = g + 1 := ⟨gk - 1, by omega⟩
        obtain ⟨y, z, rfl, hjc, hcell, z0, z1⟩ := HY.out j hp
        have hzc : wr.cell? (y.add j) = some (.int .u8 z) := by rw [hB.cell (World.block_lt_of_cell? _ _ hcell)]; exact hcell
        have hwi := wrap_in (IntKind.u64.wrap (IntKind.u64.wrap (q * 1099511628211) + z) + 211)
        obtain ⟨c0, c1, c2, f0, f1, f2⟩ := src_cells hb
        have hpl : (j : Int) < (len : Int) := by omega
        go_wp2
        go_region
        have hb2 := src_set2 hb (.int .u64 (IntKind.u64.wrap (IntKind.u64.wrap (IntKind.u64.wrap (q * 1099511628211) + z) + 211)))
        have hB2 : Below w.heap.size w (wr.setCell ⟨w.heap.size, 2, none⟩ (.int .u64 (IntKind.u64.wrap (IntKind.u64.wrap (IntKind.u64.wrap (q * 1099511628211) + z) + 211)))) := hB.setCell (p := ⟨w.heap.size, 2, none⟩) (Nat.le_refl _) _
        go_wp2
        go_roundg g
        case measure => omega
        case rel => exact ⟨j + 1, _, by omega, by go_num, hb2, hwi.1, hwi.2, hB2.drew⟩
      · go_wp2
        go_ret
        exact ⟨rfl, ⟨a, len, cap, zs, 0, q, hb, HR.out, by omega, hl, q0, q1, Nat.le_refl _⟩, hB⟩
    · go_wp2
      go_ret
      exact ⟨rfl, ⟨a, len, cap, zs, 0, q, hb, HR.out, by omega, hl, q0, q1, Nat.le_refl _⟩, hB⟩

theorem cells_new_strs (W : World) (xs : List ByteArray) (t : TypeId) : ∀ j (h : j < xs.length), (W.alloc (.cells (xs.map Value.string).toArray t)).cell? ⟨W.heap.size, j, none⟩ = some (.string (xs[j]'h)) := by
  intro j h
  rw [World.cell?_alloc_new]
  simp [h]
def signsL : List ByteArray := [⟨#[97]⟩, ⟨#[98]⟩, ⟨#[99]⟩, ⟨#[101]⟩, ⟨#[102]⟩, ⟨#[65]⟩, ⟨#[32]⟩, ⟨#[44]⟩, ⟨#[48]⟩, ⟨#[10]⟩]
theorem signsL_size : ∀ j (h : j < signsL.length), (signsL[j]'h).size = 1 := by
  intro j h
  match j, h with
  | 0, _ | 1, _ | 2, _ | 3, _ | 4, _ | 5, _ | 6, _ | 7, _ | 8, _ | 9, _ => rfl
  | j + 10, h => simp [signsL] at h; omega

set_option maxRecDepth 100000 in
set_option maxHeartbeats 1000000 in
theorem l01Damage_any (w0 W : World) (b : Nat) (x : ByteArray) (hS : Src w0 W b) (hB : Below w0.heap.size w0 W) (hx : x.size ≤ 1000) :
    Calls Tryd.prog 163 #[.pointer (some ⟨b, 0, none⟩), .string x] W (DrawnT (x.size + 1) w0 W b) := by
  have HB0 := hS.ge
  have hbl0 := hS.lt
  have CN := Lib.hid (l01Next_i w0 _ b 10 (hS.below (Below.new W (.cells (signsL.map Value.string).toArray 9))) (hB.alloc hB.size _) (by omega) (by omega))
  have HC := Lib.hid (cells_new_strs W signsL 9)
  have HB1 := Lib.hid (hB.alloc hB.size (.cells (signsL.map Value.string).toArray 9))
  have HG := Lib.hid (grown_of_below (Below.new W (.cells (signsL.map Value.string).toArray 9)) (some b))
  have hz : (W.alloc (.cells (signsL.map Value.string).toArray 9)).heap.size = W.heap.size + 1 := by simp
  clear hS
  go_enter Tryd.func163, Tryd.ntmps163
  go_wp2_with fail
  refine CN.out.mono ?_
  rintro e W1 ⟨v, rfl, v0, v1, s1, g1⟩
  obtain ⟨m, rfl⟩ := Int.eq_ofNat_of_zero_le v0
  have hm : m < signsL.length := by simp [signsL]; omega
  have k1 : W1.cell? ⟨W.heap.size, m, none⟩ = some (.string (signsL[m]'hm)) := by
    rw [grown_cell g1 (p := ⟨W.heap.size, m, none⟩) (by show W.heap.size < _; omega) (fun e => by have h : W.heap.size = b := Option.some.inj e; omega)]; exact HC.out m hm
  have hcs := signsL_size m hm
  have hB1 := below_src HB1.out HB0 g1
  have g2 := grown_trans HG.out g1
  have hm10 : (m : Int) < 10 := by omega
  generalize signsL[m]'hm = c at k1 hcs
  clear g1 hz
  by_cases h0 : x.size = 0
  · have hx0 : (x.size : Int) = 0 := by omega
    go_wp2_with fail
    go_ret
    exact ⟨c, rfl, by omega, s1, g2⟩
  · have CM := Lib.hid (l01Next_i w0 W1 b x.size s1 hB1 (by omega) (by omega))
    have hx0 : ¬ (x.size : Int) = 0 := by omega
    go_wp2_with fail
    refine CM.out.mono ?_
    rintro e W2 ⟨k, rfl, k0, k1, s2, g3⟩
    obtain ⟨n, rfl⟩ := Int.eq_ofNat_of_zero_le k0
    have hn : n < x.size := by omega
    have hB2 := below_src hB1 HB0 g3
    have g4 := grown_trans g2 g3
    have CK := Lib.hid (l01Next_i w0 W2 b 3 s2 hB2 (by omega) (by omega))
    have hsl1 := fun W => slice_to x (n : Int) n rfl (by omega) W
    have hsl2 := fun W => slice_from x ((n : Int) + 1) (n + 1) (by omega) (by omega) W
    have hsl3 := fun W => slice_from x (n : Int) n rfl (by omega) W
    have z1 : (x.extract 0 n).size = n := by simp; omega
    have z2 : (x.extract (n + 1) x.size).size = x.size - (n + 1) := by simp
    have z3 : (x.extract n x.size).size = x.size - n := by simp
    generalize x.extract 0 n = x1 at *
    generalize x.extract (n + 1) x.size = x2 at *
    generalize x.extract n x.size = x3 at *
    have hsum1 : ∀ W, (Op.stringOp .add x1 c).run Tryd.prog W = .ok (.string (x1 ++ c)) W := fun W => run_string_add_sum W _ _ (by omega)
    have y1 : (x1 ++ c).size = n + 1 := by rw [ByteArray.size_append]; omega
    have hsum2 : ∀ W, (Op.stringOp .add (x1 ++ c) x2).run Tryd.prog W = .ok (.string (x1 ++ c ++ x2)) W := fun W => run_string_add_sum W _ _ (by omega)
    have y2 : (x1 ++ c ++ x2).size = x.size := by rw [ByteArray.size_append]; omega
    have hsum3 : ∀ W, (Op.stringOp .add x1 x2).run Tryd.prog W = .ok (.string (x1 ++ x2)) W := fun W => run_string_add_sum W _ _ (by omega)
    have y3 : (x1 ++ x2).size = x.size - 1 := by rw [ByteArray.size_append]; omega
    have hsum4 : ∀ W, (Op.stringOp .add (x1 ++ c) x3).run Tryd.prog W = .ok (.string (x1 ++ c ++ x3)) W := fun W => run_string_add_sum W _ _ (by omega)
    have y4 : (x1 ++ c ++ x3).size = x.size + 1 := by rw [ByteArray.size_append]; omega
    generalize x1 ++ x2 = o3 at *
    generalize x1 ++ c ++ x2 = o2 at *
    generalize x1 ++ c ++ x3 = o4 at *
    generalize x1 ++ c = o1 at *
    go_wp2_with fail
    refine CK.out.mono ?_
    rintro e W3 ⟨q, rfl, q0, q1, s3, g5⟩
    have g6 := grown_trans g4 g5
    have s4 := fun n => (s3.below ((Below.refl _ W3).drewN n))
    by_cases hq0 : q = 0
    · subst hq0
      go_wp2_with fail
      go_quiet (fail)
      go_wp2
      go_ret
      exact ⟨o2, rfl, by omega, s4 _, grown_drewN g6 _⟩
    · by_cases hq1 : q = 1
      · subst hq1
        go_wp2_with fail
        go_quiet (fail)
        go_wp2
        go_ret
        exact ⟨o3, rfl, by omega, s4 _, grown_drewN g6 _⟩
      · go_wp2_with fail
        go_quiet (fail)
        go_wp2
        go_ret
        exact ⟨o4, rfl, by omega, s4 _, grown_drewN g6 _⟩

set_option maxRecDepth 100000 in
set_option maxHeartbeats 1000000 in
theorem l01Bad_any (w0 W : World) (b : Nat) (x : ByteArray) (hS : Src w0 W b) (hB : Below w0.heap.size w0 W) (hx : x.size ≤ 900) :
    Calls Tryd.prog 116 #[.pointer (some ⟨b, 0, none⟩), .string x] W (DrawnT (x.size + 64) w0 W b) := by
  have HB0 := hS.ge
  have CN := Lib.hid (l01Next_i w0 W b 50 hS hB (by omega) (by omega))
  clear hS
  go_enter Tryd.func116, Tryd.ntmps116
  go_wp2_with fail
  refine CN.out.mono ?_
  rintro e W1 ⟨v, rfl, v0, v1, s1, g1⟩
  have hB1 := below_src hB HB0 g1
  by_cases h0 : v = 0
  · subst h0
    have hsum : ∀ W, (Op.stringOp .add x ⟨#[102]⟩).run Tryd.prog W = .ok (.string (x ++ ⟨#[102]⟩)) W := fun W => run_string_add_sum W _ _ (by show x.size + 1 ≤ _; omega)
    have y1 : (x ++ (⟨#[102]⟩ : ByteArray)).size = x.size + 1 := by rw [ByteArray.size_append]; rfl
    generalize x ++ (⟨#[102]⟩ : ByteArray) = o1 at *
    go_wp2_with fail
    go_ret
    exact ⟨o1, rfl, by omega, s1, g1⟩
  · by_cases h1 : v = 1
    · subst h1
      have CD := Lib.hid (l01Damage_any w0 W1 b x s1 hB1 (by omega))
      go_wp2_with fail
      refine CD.out.mono ?_
      rintro e W2 ⟨y, rfl, hy, s2, g2⟩
      go_wp2_with fail
      go_ret
      exact ⟨y, rfl, by omega, s2, grown_trans g1 g2⟩
    · by_cases h2 : v = 2
      · subst h2
        go_wp2_with fail
        go_loopg [1] 61 (fun g s1 wr => ∃ y : ByteArray, 61 ≤ g + y.size ∧ y.size ≤ x.size + 62 ∧ s1 = .string y ∧ wr = W1)
        case atStart => exact ⟨x, by omega, by omega, rfl, rfl⟩
        case round =>
          obtain ⟨y, hy1, hy2, rfl, rfl⟩ := hrel
          by_cases hp : y.size ≤ 60
          · obtain ⟨g, rfl⟩ : ∃ g, gk = g + 1 := ⟨gk - 1, by omega⟩
            have hsum : ∀ W, (Op.stringOp .add y ⟨#[97, 98]⟩).run Tryd.prog W = .ok (.string (y ++ ⟨#[97, 98]⟩)) W := fun W => run_string_add_sum W _ _ (by show y.size + 2 ≤ _; omega)
            have y1 : (y ++ (⟨#[97, 98]⟩ : ByteArray)).size = y.size + 2 := by rw [ByteArray.size_append]; rfl
            generalize y ++ (⟨#[97, 98]⟩ : ByteArray) = o1 at *
            go_wp2
            go_roundg g
            case measure => omega
            case rel => exact ⟨o1, by omega, by omega, rfl, by first | rfl | trivial⟩
          · go_wp2
            go_ret
            exact ⟨y, rfl, by omega, s1, g1⟩
      · go_wp2_with fail
        go_ret
        exact ⟨x, rfl, by omega, s1, g1⟩

end Go.Proofs.YtfipbnognjepkaaDoor

/-! ### Draw10 -/
namespace Go.Proofs.YtfipbnognjepkaaDoor
set_option linter.unusedVariables false
set_option linter.unusedSimpArgs false
open Go.RowKit

/-- A text of variables alone. -/
def AbcT (p : ByteArray) : Prop := p.size ≤ 8 ∧ IsPL (bl p)
def namesP : List ByteArray := [⟨#[65, 65]⟩, ⟨#[65, 66, 65]⟩, ⟨#[65, 65, 65]⟩, ⟨#[65, 66, 65, 66]⟩, ⟨#[65, 66, 66, 65]⟩, ⟨#[65, 66, 65, 67, 65, 66, 65]⟩, ⟨#[65, 65, 66, 66]⟩, ⟨#[65, 66, 67, 65, 66]⟩, ⟨#[65, 66, 65, 67]⟩, ⟨#[65, 66, 67, 66, 65]⟩]
theorem namesP_abc : ∀ j (h : j < namesP.length), AbcT (namesP[j]'h) := by
  intro j h
  have key : ∀ p ∈ namesP, p.size ≤ 8 ∧ ∀ c ∈ bl p, 65 ≤ c.toNat ∧ c.toNat ≤ 67 := by decide
  exact key _ (List.getElem_mem h)
def abcL : List ByteArray := [⟨#[65]⟩, ⟨#[66]⟩, ⟨#[67]⟩]
theorem abcL_one : ∀ j (h : j < abcL.length), (abcL[j]'h).size = 1 ∧ IsPL (bl (abcL[j]'h)) := by
  intro j h
  have key : ∀ p ∈ abcL, p.size = 1 ∧ ∀ c ∈ bl p, 65 ≤ c.toNat ∧ c.toNat ≤ 67 := by decide
  exact key _ (List.getElem_mem h)
theorem isPL_app {A B : List UInt8} (a : IsPL A) (b : IsPL B) : IsPL (A ++ B) := by
  intro c hc
  rcases List.mem_append.1 hc with h | h
  · exact a c h
  · exact b c h
def DrawnP (w0 W : World) (b : Nat) (e : Ending) (W' : World) : Prop := ∃ x : ByteArray, e = .returned (.string x) ∧ AbcT x ∧ Src w0 W' b ∧ W.grownBy W' (some b)

set_option maxRecDepth 100000 in
set_option maxHeartbeats 2000000 in
theorem l10DrawOf_any (w0 W : World) (b : Nat) (hS : Src w0 W b) (hB : Below w0.heap.size w0 W) :
    Calls Tryd.prog 137 #[.pointer (some ⟨b, 0, none⟩)] W (DrawnP w0 W b) := by
  have HB0 := hS.ge
  have CN := Lib.hid (l01Next_i w0 W b 2 hS hB (by omega) (by omega))
  clear hS
  go_enter Tryd.func137, Tryd.ntmps137
  go_wp2_with fail
  refine CN.out.mono ?_
  rintro e W1 ⟨v, rfl, v0, v1, s1, g1⟩
  have hB1 := below_src hB HB0 g1
  have hbl := s1.lt
  clear CN
  by_cases h0 : v = 0
  · subst h0
    obtain ⟨WA, hWA⟩ : ∃ WA, WA = W1.alloc (.cells #[.string ⟨#[65, 65]⟩, .string ⟨#[65, 66, 65]⟩, .string ⟨#[65, 65, 65]⟩, .string ⟨#[65, 66, 65, 66]⟩, .string ⟨#[65, 66, 66, 65]⟩, .string ⟨#[65, 66, 65, 67, 65, 66, 65]⟩, .string ⟨#[65, 65, 66, 66]⟩, .string ⟨#[65, 66, 67, 65, 66]⟩, .string ⟨#[65, 66, 65, 67]⟩, .string ⟨#[65, 66, 67, 66, 65]⟩] 9) := ⟨_, rfl⟩
    have bA : Below W1.heap.size W1 WA := by rw [hWA]; exact Below.new _ _
    have HC : ∀ j (h : j < namesP.length), WA.cell? ⟨W1.heap.size, j, none⟩ = some (.string (namesP[j]'h)) := by rw [hWA]; exact cells_new_strs W1 namesP 9
    have CM := Lib.hid (l01Next_i w0 WA b 10 (s1.below bA) (hB1.then bA) (by omega) (by omega))
    have HC := Lib.hid HC
    have HG := Lib.hid (grown_trans g1 (grown_of_below bA (some b)))
    have hz : WA.heap.size = W1.heap.size + 1 := by rw [hWA]; simp
    clear s1 g1 hB1
    go_wp2_with fail
    rw [← hWA]
    clear hWA
    refine CM.out.mono ?_
    rintro e W2 ⟨m, rfl, m0, m1, s2, g2⟩
    obtain ⟨k, rfl⟩ := Int.eq_ofNat_of_zero_le m0
    have hk : k < namesP.length := by show k < 10; omega
    have hk10 : k < 10 := hk
    have k1 : W2.cell? ⟨W1.heap.size, k, none⟩ = some (.string (namesP[k]'hk)) := by
      rw [grown_cell g2 (p := ⟨W1.heap.size, k, none⟩) (by show W1.heap.size < WA.heap.size; omega) (fun e => by have h : W1.heap.size = b := Option.some.inj e; omega)]; exact HC.out k hk
    have HA := Lib.hid (namesP_abc k hk)
    generalize namesP[k]'hk = p at k1 HA
    have HG2 := Lib.hid (grown_trans HG.out g2)
    clear g2 HC CM
    go_wp2_with fail
    go_ret
    exact ⟨p, rfl, HA.out, s2, HG2.out⟩
  · have CP := Lib.hid (l01Pick_any w0 _ b _ [4, 6, 8] (s1.below (Below.new _ _)) (hB1.alloc hB1.size _) (by simp) (by omega) (by decide) (by decide) (cells_new_ints W1 [4, 6, 8] 2))
    have HG1 := Lib.hid (grown_trans g1 (grown_of_below (Below.new W1 (.cells ([4, 6, 8].map (Value.int .i64)).toArray 2)) (some b)))
    clear s1 g1
    go_wp2_with fail
    refine CP.out.mono ?_
    rintro e W2 ⟨z, rfl, hz, s2, g2⟩
    have hz2 : 1 ≤ z ∧ z ≤ 8 := by simp at hz; omega
    have G2 := Lib.hid (grown_trans HG1.out g2)
    have hB2 := below_src hB HB0 G2.out
    have CN2 := Lib.hid (l01Next_i w0 W2 b z s2 hB2 hz2.1 (by omega))
    clear hz g2 HG1 CP s2 hB1
    go_wp2_with fail
    refine CN2.out.mono ?_
    rintro e W3 ⟨y, rfl, y0, y1, s3, g3⟩
    have G3 := Lib.hid (grown_trans G2.out g3)
    clear g3 G2 CN2 hB2
    obtain ⟨N, rfl⟩ := Int.eq_ofNat_of_zero_le y0
    have hN : N + 1 ≤ 8 := by omega
    clear y0 y1
    go_wp2_with fail
    go_loopg [3, 4] (N + 1) (fun g s3 s4 wr => ∃ (p : ByteArray), g ≤ N + 1 ∧ p.size + g = N + 1 ∧ IsPL (bl p) ∧ s3 = .string p ∧ s4 = .int .i64 (g : Int) ∧ Src w0 wr b ∧ W.grownBy wr (some b))
    case atStart => exact ⟨⟨#[]⟩, Nat.le_refl _, by show 0 + _ = _; omega, (fun c hc => by cases hc), rfl, by go_num, s3, G3.out⟩
    case round =>
      clear s3 G3
      obtain ⟨p, hg, hp, hP, rfl, rfl, hS, hG⟩ := hrel
      have hB1 := below_src hB HB0 hG
      have hbl2 := hS.lt
      by_cases hgp : gk = 0
      · subst hgp
        have HP := Lib.hid hP
        clear hP
        go_wp2_with fail
        go_ret
        exact ⟨p, rfl, ⟨by omega, HP.out⟩, hS, hG⟩
      · obtain ⟨g, rfl⟩ : ∃ g, gk = g + 1 := ⟨gk - 1, by omega⟩
        have HP := Lib.hid hP
        clear hP
        obtain ⟨WA, hWA⟩ : ∃ WA, WA = wr.alloc (.cells #[.string ⟨#[65]⟩, .string ⟨#[66]⟩, .string ⟨#[67]⟩] 9) := ⟨_, rfl⟩
        have HC : ∀ j (h : j < abcL.length), WA.cell? ⟨wr.heap.size, j, none⟩ = some (.string (abcL[j]'h)) := by rw [hWA]; exact cells_new_strs wr abcL 9
        have bA : Below wr.heap.size wr WA := by rw [hWA]; exact Below.new _ _
        have sA := hS.below bA
        have BA := hB1.then bA
        have GA := grown_trans hG (grown_of_below bA (some b))
        have zA : WA.heap.size = wr.heap.size + 1 := by rw [hWA]; simp
        obtain ⟨WB, hWB⟩ : ∃ WB, WB = WA.alloc (.cells #[.int .i64 1, .int .i64 2, .int .i64 3, .int .i64 3] 2) := ⟨_, rfl⟩
        have HCB : ∀ j (h : j < [1, 2, 3, 3].length), WB.cell? ⟨wr.heap.size + 1, j, none⟩ = some (.int .i64 ([1, 2, 3, 3][j]'h)) := by rw [← zA, hWB]; exact cells_new_ints WA [1, 2, 3, 3] 2
        have bB : Below WA.heap.size WA WB := by rw [hWB]; exact Below.new _ _
        have zB : WB.heap.size = WA.heap.size + 1 := by rw [hWB]; simp
        have CP := Lib.hid (l01Pick_any w0 WB b (wr.heap.size + 1) [1, 2, 3, 3] (sA.below bB) (BA.then bB) (by omega) (by omega) (by decide) (by decide) HCB)
        have HG1 := Lib.hid (grown_of_below bB (some b))
        have HCC := Lib.hid HC
        clear HC hS HCB
        go_wp2_with fail
        rw [← hWA, ← hWB]
        clear hWA hWB
        refine CP.out.mono ?_
        rintro e W2 ⟨z, rfl, hz, s2, g2⟩
        have hz2 : 1 ≤ z ∧ z ≤ 3 := by simp at hz; omega
        have G2 := Lib.hid (grown_trans HG1.out g2)
        have hB2 := below_src BA HB0 G2.out
        have CN2 := Lib.hid (l01Next_i w0 W2 b z s2 hB2 hz2.1 (by omega))
        have z2 := g2.size
        clear hz g2 HG1 CP s2
        go_wp2_with fail
        refine CN2.out.mono ?_
        rintro e W3 ⟨y, rfl, y0, y1, s3, g3⟩
        have G3 := Lib.hid (grown_trans G2.out g3)
        obtain ⟨k, rfl⟩ := Int.eq_ofNat_of_zero_le y0
        have hk : k < abcL.length := by show k < 3; omega
        have hk3 : k < 3 := hk
        have k1 : W3.cell? ⟨wr.heap.size, k, none⟩ = some (.string (abcL[k]'hk)) := by
          rw [grown_cell G3.out (p := ⟨wr.heap.size, k, none⟩) (by show wr.heap.size < WA.heap.size; omega) (fun e => by have h : wr.heap.size = b := Option.some.inj e; omega)]; exact HCC.out k hk
        have hone := abcL_one k hk
        generalize abcL[k]'hk = t at k1 hone
        obtain ⟨ho1, ho2⟩ := hone
        have hsum : ∀ W, (Op.stringOp .add p t).run Tryd.prog W = .ok (.string (p ++ t)) W := fun W => run_string_add_sum W p t (by omega)
        have hz3 : (p ++ t).size = p.size + 1 := by rw [ByteArray.size_append]; omega
        have hP2 : IsPL (bl (p ++ t)) := by rw [bl_append]; exact isPL_app HP.out ho2
        have HP2 := Lib.hid hP2
        have GG := Lib.hid (grown_trans GA G3.out)
        clear hP2 ho2 g3 G2 CN2 hB2 HP GA BA HCC G3 hG hB1
        generalize p ++ t = q at *
        go_wp2_with fail
        go_roundg g
        case measure => omega
        case rel => exact ⟨q, by omega, by omega, HP2.out, rfl, by go_num, s3, GG.out⟩

set_option maxRecDepth 100000 in
set_option maxHeartbeats 1000000 in
theorem l10Bad_any (w0 W : World) (b : Nat) (x : ByteArray) (hS : Src w0 W b) (hB : Below w0.heap.size w0 W) (hx : x.size ≤ 900) :
    Calls Tryd.prog 139 #[.pointer (some ⟨b, 0, none⟩), .string x] W (DrawnT (x.size + 64) w0 W b) := by
  have HB0 := hS.ge
  have CN := Lib.hid (l01Next_i w0 W b 40 hS hB (by omega) (by omega))
  clear hS
  go_enter Tryd.func139, Tryd.ntmps139
  go_wp2_with fail
  refine CN.out.mono ?_
  rintro e W1 ⟨v, rfl, v0, v1, s1, g1⟩
  have hB1 := below_src hB HB0 g1
  by_cases h0 : v = 0
  · subst h0
    go_wp2_with fail
    go_ret
    exact ⟨_, rfl, by show 0 ≤ _; omega, s1, g1⟩
  · by_cases h1 : v = 1
    · subst h1
      have hsum : ∀ W, (Op.stringOp .add x ⟨#[68]⟩).run Tryd.prog W = .ok (.string (x ++ ⟨#[68]⟩)) W := fun W => run_string_add_sum W _ _ (by show x.size + 1 ≤ _; omega)
      have y1 : (x ++ (⟨#[68]⟩ : ByteArray)).size = x.size + 1 := by rw [ByteArray.size_append]; rfl
      generalize x ++ (⟨#[68]⟩ : ByteArray) = o1 at *
      go_wp2_with fail
      go_ret
      exact ⟨o1, rfl, by omega, s1, g1⟩
    · by_cases h2 : v = 2
      · subst h2
        go_wp2_with fail
        go_ret
        exact ⟨_, rfl, by show 9 ≤ _; omega, s1, g1⟩
      · go_wp2_with fail
        go_ret
        exact ⟨x, rfl, by omega, s1, g1⟩

end Go.Proofs.YtfipbnognjepkaaDoor

/-! ### GivS -/
namespace Go.Proofs.YtfipbnognjepkaaDoor
set_option linter.unusedVariables false
set_option linter.unusedSimpArgs false
open Go.RowKit

/-- Three texts in a list of the call's own. -/
def ThreeO (w : World) (B g cap : Nat) (V : Nat → List UInt8) : Prop := w.ownsRow B 9 1 (.slice (some ⟨g, 0, none⟩) 3 cap) 3 [.string (bt (V 0)), .string (bt (V 1)), .string (bt (V 2))]
theorem ThreeO.at {w : World} {B g cap : Nat} {V : Nat → List UInt8} (h : ThreeO w B g cap V) {j : Nat} (hj : j < 3) : w.cell? ⟨g, j, none⟩ = some (.string (bt (V j))) := by
  rw [h.cellAt j (by omega)]
  have hj' : j = 0 ∨ j = 1 ∨ j = 2 := by omega
  rcases hj' with rfl | rfl | rfl <;> rfl
theorem ThreeO.set {w : World} {B g cap : Nat} {V : Nat → List UInt8} (h : ThreeO w B g cap V) {k : Nat} (hk : k < 3) (l : List UInt8) : ThreeO (w.setCell ⟨g, k, none⟩ (.string (bt l))) B g cap (updV V k l) := by
  have h2 := (h.stored k (.string (bt l))).1
  have e : [Value.string (bt (V 0)), .string (bt (V 1)), .string (bt (V 2))].set k (.string (bt l)) = [Value.string (bt (updV V k l 0)), .string (bt (updV V k l 1)), .string (bt (updV V k l 2))] := by
    have hk' : k = 0 ∨ k = 1 ∨ k = 2 := by omega
    rcases hk' with rfl | rfl | rfl <;> rfl
  rw [e] at h2
  exact h2
/-- The lengths of the three variables in a block. -/
def LensAt (w : World) (b : Nat) (L : Nat → Nat) (n : Nat) : Prop := b < w.heap.size ∧ ∀ j, j < n → w.cell? ⟨b, j, none⟩ = some (.int .i64 ((L j : Nat) : Int))
theorem LensAt.past {w w' : World} {b n : Nat} {L : Nat → Nat} (h : LensAt w b L n) (hB : Below w.heap.size w w') : LensAt w' b L n := ⟨Nat.lt_of_lt_of_le h.1 hB.size, fun j hj => by rw [(bcell hB).1 b j h.1]; exact h.2 j hj⟩
/-- The values in order, those that are told. -/
def outsV (V : Nat → List UInt8) (k : Nat) : List ByteArray := (([0, 1, 2].take k).filter fun v => decide (V v ≠ [])).map fun v => bt (V v)
theorem outsV_succ {V : Nat → List UInt8} {k : Nat} (hk : k < 3) : outsV V (k + 1) = outsV V k ++ (if V k ≠ [] then [bt (V k)] else []) := by
  have hk3 : k = 0 ∨ k = 1 ∨ k = 2 := by omega
  unfold outsV
  rcases hk3 with rfl | rfl | rfl <;> (simp only [List.take_succ_cons, List.take_zero, List.filter_cons, List.filter_nil]; repeat' split) <;> simp_all
theorem outsV_len (V : Nat → List UInt8) (k : Nat) : (outsV V k).length ≤ 3 := by
  unfold outsV
  rw [List.length_map]
  have h2 : (List.take k [0, 1, 2]).length ≤ 3 := by rw [List.length_take]; simp; omega
  exact Nat.le_trans (List.length_filter_le _ _) h2
/-- What is answered to given lengths. -/
def GivAns (R : List UInt8) (P : List UInt8) (L : Nat → Nat) (B : Nat) (e : Ending) (w' : World) : Prop :=
  (∃ v, e = .returned (.tuple #[v, .bool false]) ∧ (totL L P ≠ R.length ∨ giv L P R (fun _ => []) = none)) ∨
  (∃ v W, e = .returned (.tuple #[v, .bool true]) ∧ totL L P = R.length ∧ giv L P R (fun _ => []) = some W ∧ OwnS w' B v (outsV W 3))
theorem totL_drop (L : Nat → Nat) : ∀ (P : List UInt8) (i : Nat), totL L (P.take i) + totL L (P.drop i) = totL L P
  | [], i => by simp [totL]
  | c :: P, 0 => by simp [totL]
  | c :: P, i + 1 => by
    have := totL_drop L P i
    rw [List.take_succ_cons, List.drop_succ_cons, totL, totL]
    omega
theorem totL_takeG (L : Nat → Nat) : ∀ (P : List UInt8) (i : Nat) (h : i < P.length), totL L (P.take (i + 1)) = totL L (P.take i) + L (vn (P[i]'h))
  | [], i, h => by simp at h
  | c :: P, 0, h => by simp [totL]
  | c :: P, i + 1, h => by
    have := totL_takeG L P i (by simpa using h)
    rw [List.take_succ_cons, totL, this, List.take_succ_cons, totL, List.getElem_cons_succ]
    omega
theorem giv_noneG {L : Nat → Nat} {c : UInt8} {P R : List UInt8} {V : Nat → List UInt8} (h : ¬ (V (vn c) = [] ∨ V (vn c) = R.take (L (vn c)))) : giv L (c :: P) R V = none := by rw [giv, if_neg h]
theorem giv_stepG {L : Nat → Nat} {c : UInt8} {P R : List UInt8} {V : Nat → List UInt8} (h : V (vn c) = [] ∨ V (vn c) = R.take (L (vn c))) : giv L (c :: P) R V = giv L P (R.drop (L (vn c))) (updV V (vn c) (R.take (L (vn c)))) := by rw [giv, if_pos h]

def OkV (V : Nat → List UInt8) : Prop := ∀ j, (V j).length ≤ 60
theorem OkV.upd {V : Nat → List UInt8} (h : OkV V) (k : Nat) {l : List UInt8} (hl : l.length ≤ 60) : OkV (updV V k l) := by
  intro j
  by_cases e : j = k
  · rw [e, updV_at]; exact hl
  · rw [updV_ne _ _ e]; exact h j
set_option maxRecDepth 100000 in
theorem bt_part (l : List UInt8) (a n : Nat) (h : a + n ≤ l.length) (W : World) : (Instr.slice 9 (.string (bt l)) (some (.int .i64 (a : Int))) (some (.int .i64 ((a : Int) + (n : Int)))) none).run Tryd.prog W = .ok (.string (bt ((l.drop a).take n))) W := by
  have := run_slice_string (P := Tryd.prog) W 9 (bt l) .i64 .i64 (a : Int) ((a : Int) + (n : Int)) Tryd.underlying9 (by omega) (by omega) (by rw [bt_size]; omega)
  have e : (bt l).extract a (a + n) = bt ((l.drop a).take n) := bl_inj (by rw [bl_extract, show a + n - a = n by omega]; rfl)
  have e2 : ((a : Int) + (n : Int)).toNat = a + n := by omega
  simpa [e, e2] using this

set_option maxRecDepth 100000 in
set_option maxHeartbeats 8000000 in
theorem l10Given_any (P R : List UInt8) (L : Nat → Nat) (b cap : Nat) (w : World) (hP : IsPL P) (hP8 : P.length ≤ 8) (hR : R.length ≤ 60) (hL : ∀ j, L j ≤ 60) (hT : LensAt w b L 3) :
    Calls Tryd.prog 131 #[.string (bt R), .string (bt P), .slice (some ⟨b, 0, none⟩) 3 cap] w fun e w' => GivAns R P L w.heap.size e w' ∧ Below w.heap.size w w' := by
  obtain ⟨i0, hi, hz0, hz1, hz2⟩ := info_parts infoStrP
  have hps : (bt P).size = P.length := bt_size P
  have hrs : (bt R).size = R.length := bt_size R
  have hbs := hT.1
  have HP := Lib.hid hP
  have HT := Lib.hid hT
  have HL := Lib.hid hL
  have ho0 : ThreeO (w.alloc (.cells #[.string ⟨#[]⟩, .string ⟨#[]⟩, .string ⟨#[]⟩] 9)) w.heap.size w.heap.size 3 (fun _ => []) :=
    World.ownsRow_lit (e := 9) w #[.string ⟨#[]⟩, .string ⟨#[]⟩, .string ⟨#[]⟩] 3 (Nat.le_refl _) (by unfold maxLen; omega) rfl
  have HO0 := Lib.hid ho0
  clear hP hT hL ho0
  go_enter Tryd.func131, Tryd.ntmps131
  go_wp2_with fail
  go_loopw [9, 10] (fun s9 s10 wr => ∃ (i : Nat) (V : Nat → List UInt8), i ≤ P.length ∧ s10 = .int .i64 (i : Int) ∧ s9 = .int .i64 ((totL L (P.take i) : Nat) : Int) ∧ totL L (P.take i) ≤ R.length ∧
      Hid (giv L P R (fun _ => []) = giv L (P.drop i) (R.drop (totL L (P.take i))) V) ∧ ThreeO wr w.heap.size w.heap.size 3 V ∧ OkV V ∧ Below w.heap.size w wr) (fun _ s10 _ => P.length - (intOf s10).toNat)
  case atStart => exact ⟨0, fun _ => [], Nat.zero_le _, rfl, by simp [totL], by simp [totL], Lib.hid (by simp [totL]), HO0.out, fun j => Nat.zero_le _, Below.new _ _⟩
  case round =>
    obtain ⟨i, V, hi1, rfl, rfl, hA, HG, hTh, hOk, hB⟩ := hrel
    by_cases hp' : i < P.length
    · have hcm : P[i]'hp' ∈ P := List.getElem_mem hp'
      obtain ⟨hc1, hc2⟩ := HP.out _ hcm
      have htk := totL_takeG L P i hp'
      have hdr : P.drop i = P[i]'hp' :: P.drop (i + 1) := List.drop_eq_getElem_cons hp'
      have htd := totL_drop L P (i + 1)
      obtain ⟨k, hk⟩ : ∃ k, vn (P[i]'hp') = k := ⟨_, rfl⟩
      have hk3 : k < 3 := by rw [← hk]; unfold vn; omega
      have hck : ((P[i]'hp').toNat : Int) = (k : Int) + 65 := by rw [← hk]; unfold vn; omega
      have hidx : ∀ W, (Instr.index 9 (.string (bt P)) (.int .i64 (i : Int))).run Tryd.prog W = .ok (.int .u8 ((k : Int) + 65)) W := fun W => by
        rw [run_index_string (h := Tryd.underlying9), dif_pos ⟨by omega, by rw [hps]; omega⟩, ← hck]; rfl
      have hn60 := HL.out k
      have kl := (HT.out.past hB).2 k hk3
      have kv := hTh.at hk3
      have kf : wr.frozen? ⟨w.heap.size, k, none⟩ = false := hTh.frozenAt k
      have hVk := hOk k
      rw [hk] at htk
      obtain ⟨n, hn⟩ : ∃ n, L k = n := ⟨_, rfl⟩
      obtain ⟨A, hAe⟩ : ∃ A, totL L (P.take i) = A := ⟨_, rfl⟩
      rw [hn] at htk hn60 kl
      rw [hAe] at htk HG hA ⊢
      have HK := Lib.hid hk
      have HN := Lib.hid hn
      have HTK := Lib.hid htk
      have HTD := Lib.hid htd
      have HDR := Lib.hid hdr
      have HTH := Lib.hid hTh
      have HOK := Lib.hid hOk
      clear hk hn htk htd hdr hTh hOk hck hcm hAe
      have hstep : giv L (P.drop i) (R.drop A) V = giv L (P[i]'hp' :: P.drop (i + 1)) (R.drop A) V := by rw [HDR.out]
      have HST := Lib.hid hstep
      clear hstep
      by_cases hgt : R.length < A + n
      · have hend : ∀ w', GivAns R P L w.heap.size (.returned (.tuple #[.slice none 0 0, .bool false])) w' := fun w' => .inl ⟨_, rfl, .inl (by have := HTK.out; have := HTD.out; omega)⟩
        have HE := Lib.hid hend
        clear hend
        go_wp2_with fail
        go_ret2
        exact ⟨HE.out _, hB⟩
      · have hs := fun W => bt_part R A n (by omega) W
        obtain ⟨own, hown⟩ : ∃ own, (R.drop A).take n = own := ⟨_, rfl⟩
        rw [hown] at hs
        have hol : own.length ≤ 60 := by rw [← hown, List.length_take]; omega
        have HOW := Lib.hid hown
        clear hown
        have hcont : (V k = [] ∨ V k = own) → giv L P R (fun _ => []) = giv L (P.drop (i + 1)) (R.drop (A + n)) (updV V k own) := fun h => by
          rw [HG.out, HST.out, giv_stepG (by rw [HK.out, HN.out, HOW.out]; exact h), HK.out, HN.out, HOW.out, List.drop_drop]
        have HCO := Lib.hid hcont
        have HB2 := Lib.hid (hB.setCell (p := ⟨w.heap.size, k, none⟩) (Nat.le_refl _) (.string (bt own)))
        have HT2 := Lib.hid (HTH.out.set hk3 own)
        have hTA : ((totL L (P.take (i + 1)) : Nat) : Int) = (A : Int) + (n : Int) := by have := HTK.out; omega
        have HTA := Lib.hid hTA
        have hle2 : A + n ≤ R.length := by omega
        clear hcont hTA
        by_cases h0 : V k = []
        · have hye : (bt (V k)).toList.isEmpty = true := by rw [bt_empty, h0]; rfl
          have H0 := Lib.hid h0
          clear h0
          generalize bt (V k) = y at *
          go_wp2_with fail
          go_roundw
          case rel => exact ⟨i + 1, updV V k own, by omega, by go_num, by rw [HTA.out], by have := HTK.out; omega, Lib.hid (by rw [HTK.out]; exact HCO.out (.inl H0.out)), HT2.out, HOK.out.upd k hol, HB2.out⟩
          case measure => simp [intOf]; omega
        · have hye : (bt (V k)).toList.isEmpty = false := by
            rw [bt_empty]
            cases e : V k with
            | nil => exact absurd e h0
            | cons a t => rfl
          by_cases heq : V k = own
          · have hq : ((bt (V k)).toList == (bt own).toList) = true := by rw [heq]; exact beq_self_eq_true _
            have H1 := Lib.hid heq
            clear heq h0
            generalize bt (V k) = y at *
            generalize hoy : bt own = z at *
            go_wp2_with fail
            go_roundw
            case rel => exact ⟨i + 1, updV V k own, by omega, by go_num, by rw [HTA.out], by have := HTK.out; omega, Lib.hid (by rw [HTK.out]; exact HCO.out (.inr H1.out)), HT2.out, HOK.out.upd k hol, HB2.out⟩
            case measure => simp [intOf]; omega
          · have hq : ((bt (V k)).toList == (bt own).toList) = false := bt_eq_no heq
            have hgn : giv L P R (fun _ => []) = none := by
              rw [HG.out, HST.out]
              apply giv_noneG
              rw [HK.out, HN.out, HOW.out]
              rintro (e | e)
              · exact h0 e
              · exact heq e
            have hend : ∀ w', GivAns R P L w.heap.size (.returned (.tuple #[.slice none 0 0, .bool false])) w' := fun w' => .inl ⟨_, rfl, .inr hgn⟩
            have HE := Lib.hid hend
            clear hend hgn heq h0
            generalize bt (V k) = y at *
            generalize bt own = z at *
            go_wp2_with fail
            go_ret2
            exact ⟨HE.out _, hB⟩
    · obtain rfl : i = P.length := by omega
      rw [List.take_length] at HG hA ⊢
      have hg2 : giv L P R (fun _ => []) = some V := by
        have h := HG.out
        rw [List.drop_length, giv] at h
        exact h
      have HG2 := Lib.hid hg2
      have HTH := Lib.hid hTh
      have HOK := Lib.hid hOk
      obtain ⟨A, hAe⟩ : ∃ A, totL L P = A := ⟨_, rfl⟩
      rw [hAe] at hA ⊢
      have HA := Lib.hid hAe
      have hsz := hB.size
      clear hg2 HG hTh hOk hAe
      have hwlt : w.heap.size < wr.heap.size := (HTH.out.lt _ rfl).2
      go_wp2_with fail
      have HEO := Lib.hid (own_base (own_empty wr 9) (show w.heap.size + 1 ≤ wr.heap.size by omega))
      go_loopw [13, 14] (fun s13 s14 w2 => ∃ j : Nat, j ≤ 3 ∧ s14 = .int .i64 (j : Int) ∧ OwnS w2 (w.heap.size + 1) s13 (outsV V j) ∧ ThreeO w2 w.heap.size w.heap.size 3 V ∧ Below w.heap.size w w2 ∧ w.heap.size < w2.heap.size) (fun _ s14 _ => 3 - (intOf s14).toNat)
      case atStart => exact ⟨0, Nat.zero_le _, rfl, HEO.out, HTH.out.alloc _, hB.alloc hsz _, by simp; omega⟩
      case round =>
        obtain ⟨j, hj, rfl, hown, hTh2, hB2, hlt2⟩ := hrel
        by_cases hj3 : j < 3
        · have kj := hTh2.at hj3
          have hsn := outsV_succ (V := V) hj3
          have hol := outsV_len V j
          have hVj := HOK.out j
          have hzB2 := hB2.size
          have HSN := Lib.hid hsn
          clear hsn
          by_cases h0 : V j = []
          · rw [if_neg (not_not_intro h0), List.append_nil] at HSN
            have hye : (bt (V j)).toList.isEmpty = true := by rw [bt_empty, h0]; rfl
            clear h0
            generalize bt (V j) = y at *
            have HTH2 := Lib.hid hTh2
            have HOW := Lib.hid hown
            clear hTh2 hown
            go_wp2_with fail
            go_roundw
            case rel => exact ⟨j + 1, by omega, by go_num, by rw [HSN.out]; exact HOW.out, HTH2.out, hB2, hlt2⟩
            case measure => simp [intOf]; omega
          · rw [if_pos h0] at HSN
            have hye : (bt (V j)).toList.isEmpty = false := by
              rw [bt_empty]
              cases e : V j with
              | nil => exact absurd e h0
              | cons a t => rfl
            clear h0
            generalize bt (V j) = y at *
            generalize outsV V j = O at *
            go_wp2_with (at_builtin; refine wpList_append_own _ rfl _ _ 22 rfl (w.heap.size + 1) 9 i0 (.string ⟨#[]⟩) 1 16 Tryd.underlying22 hi hz0 hz1 hz2 rfl (by decide) _ _ _ rfl (World.ownsRow.alloc hown _) ⟨_, 0, none⟩ 1 1 [.string y] rfl rfl (cell_new _ _ _) (by intro u hu; simp at hu; subst hu; rfl) (by unfold maxLen; omega) (by omega) (by simp; omega) ?_; intro v' w3 hown' hgrow hnil)
            have hb3 : Below w.heap.size w w3 := (hB2.alloc (by omega) _).grown hgrow (by simp; omega) (fun q hq => by have := (hown.lt q hq).1; omega)
            have hlt3 : w.heap.size < w3.heap.size := by have := hgrow.size; simp at this; omega
            have hth3 : ThreeO w3 w.heap.size w.heap.size 3 V := World.ownsRow.kept (hTh2.alloc _) hgrow (.inr (fun e => by have h9 := (hown.lt w.heap.size e.symm).1; omega))
            have HTH3 := Lib.hid hth3
            have HOW3 := Lib.hid (ownS_snoc hown')
            clear hth3 hown' hgrow hnil hTh2
            go_roundw
            case rel => exact ⟨j + 1, by omega, by go_num, by rw [HSN.out]; exact HOW3.out, HTH3.out, hb3, hlt3⟩
            case measure => simp [intOf]; omega
        · obtain rfl : j = 3 := by omega
          have HOW := Lib.hid hown
          clear hown hTh2
          go_wp2_with fail
          go_ret2
          refine ⟨?_, hB2⟩
          by_cases e : A = R.length
          · have e1 : ((A : Int) == (R.length : Int)) = true := by rw [beq_iff_eq]; omega
            exact .inr ⟨_, V, congrArg (fun t => Ending.returned (.tuple #[_, .bool t])) e1, by rw [HA.out, e], HG2.out, own_base HOW.out (Nat.le_succ _)⟩
          · have e1 : ((A : Int) == (R.length : Int)) = false := by rw [beq_eq_false_iff_ne]; omega
            exact .inl ⟨_, congrArg (fun t => Ending.returned (.tuple #[_, .bool t])) e1, .inl (by rw [HA.out]; exact e)⟩

end Go.Proofs.YtfipbnognjepkaaDoor

/-! ### LenS -/
namespace Go.Proofs.YtfipbnognjepkaaDoor
set_option linter.unusedVariables false
set_option linter.unusedSimpArgs false
open Go.RowKit

theorem infoIntG : (Tryd.prog.info? 3).map (fun i => (i.zero, i.size, i.bytes)) = some (some (.int .i64 0), 1, 8) := by kernel_rfl
def vsFrom (P : List UInt8) (k : Nat) : List Nat := ([0, 1, 2].drop k).filter fun v => decide (0 < cntV P v)
theorem vsFrom_zero (P : List UInt8) : vsFrom P 0 = vsOf P := rfl
theorem vsFrom_hit {P : List UInt8} {k : Nat} (hk : k < 3) (h : 0 < cntV P k) : vsFrom P k = k :: vsFrom P (k + 1) := by
  have hk3 : k = 0 ∨ k = 1 ∨ k = 2 := by omega
  unfold vsFrom
  rcases hk3 with rfl | rfl | rfl <;> simp [List.filter_cons, h]
theorem vsFrom_miss {P : List UInt8} {k : Nat} (hk : k < 3) (h : cntV P k = 0) : vsFrom P k = vsFrom P (k + 1) := by
  have hk3 : k = 0 ∨ k = 1 ∨ k = 2 := by omega
  unfold vsFrom
  rcases hk3 with rfl | rfl | rfl <;> simp [List.filter_cons, h]
def LenAns (R P : List UInt8) (k : Nat) (L : Nat → Nat) (left B : Nat) (e : Ending) (w' : World) : Prop :=
  match srch R P (vsFrom P k) L left with
  | none => ∃ v, e = .returned (.tuple #[v, .bool false])
  | some W => ∃ v, e = .returned (.tuple #[v, .bool true]) ∧ OwnS w' B v (outsV W 3)
theorem cntV_take (P : List UInt8) (v : Nat) : ∀ (i : Nat) (h : i < P.length), cntV (P.take (i + 1)) v = cntV (P.take i) v + (if vn (P[i]'h) = v then 1 else 0) := by
  induction P with
  | nil => intro i h; simp at h
  | cons c P ih =>
    intro i h
    cases i with
    | zero => rw [List.take_succ_cons, cntV_cons]; simp [cntV]
    | succ i =>
      have := ih i (by simpa using h)
      rw [List.take_succ_cons, cntV_cons, this, List.take_succ_cons, cntV_cons, List.getElem_cons_succ]
      omega
def lensV (L : Nat → Nat) (k : Nat) : List Value := (List.range k).map fun j => Value.int .i64 ((L j : Nat) : Int)
theorem lensV_len (L : Nat → Nat) (k : Nat) : (lensV L k).length = k := by simp [lensV]
theorem lensV_get {L : Nat → Nat} {k j : Nat} (h : j < k) : (lensV L k)[j]? = some (.int .i64 ((L j : Nat) : Int)) := by simp [lensV, h]
theorem lensV_snoc (L : Nat → Nat) (k n : Nat) : lensV L k ++ [.int .i64 (n : Int)] = lensV (updV L k n) (k + 1) := by
  unfold lensV
  rw [List.range_succ, List.map_append]
  congr 1
  · refine List.map_congr_left fun j hj => ?_
    rw [updV_ne _ _ (by have := List.mem_range.1 hj; omega)]
  · simp [updV_at]
theorem lensV_snoc0 (L : Nat → Nat) (k : Nat) : lensV L k ++ [.int .i64 0] = lensV (updV L k 0) (k + 1) := lensV_snoc L k 0
def NoneS {β : Type} (F : Nat → Option β) (m : Nat) : Prop := ∀ k, 1 ≤ k → k < m → F k = none
theorem lens_news {w : World} {b k : Nat} {L : Nat → Nat} (h : LensAt w b L k) : ∀ j u, (lensV L k)[j]? = some u → w.cell? ((⟨b, 0, none⟩ : Addr).add j) = some u := by
  intro j u hu
  have hj : j < k := by have := (List.getElem?_eq_some_iff.1 hu).1; rwa [lensV_len] at this
  rw [lensV_get hj] at hu
  cases hu
  rw [Addr.add_lit, Nat.zero_add, h.2 j hj]
theorem lens_one (L : Nat → Nat) (k : Nat) : ∀ u ∈ lensV L k, u.oneCell' = true := by
  intro u hu
  unfold lensV at hu
  obtain ⟨j, _, rfl⟩ := List.mem_map.1 hu
  rfl
theorem lens_at {w : World} {B g cap k : Nat} {L : Nat → Nat} (h : w.ownsRow B 3 1 (.slice (some ⟨g, 0, none⟩) k cap) k (lensV L k)) : LensAt w g L k :=
  ⟨(h.lt g rfl).2, fun j hj => by rw [h.cellAt j (by omega)]; exact lensV_get hj⟩
theorem own_slice {w : World} {B : Nat} {e : TypeId} {v : Value} {n : Nat} {xs : List Value} (h : w.ownsRow B e 1 v n xs) (hv : v ≠ .slice none 0 0) : ∃ g cap, v = .slice (some ⟨g, 0, none⟩) n cap := by
  obtain ⟨_, ⟨h0, _⟩ | ⟨g, cap, cur, rfl, _⟩⟩ := h
  · exact absurd h0 hv
  · exact ⟨g, cap, rfl⟩

set_option maxRecDepth 100000 in
set_option maxHeartbeats 8000000 in
theorem l10Lengths_any (P R : List UInt8) (hP : IsPL P) (hP8 : P.length ≤ 8) (hR : R.length ≤ 60) : ∀ (d k : Nat) (L : Nat → Nat) (b cap : Nat) (w : World), k + d = 3 → (∀ j, L j ≤ 60) → (∀ j, k ≤ j → L j = 0) → totL L P ≤ R.length → LensAt w b L k →
    Calls Tryd.prog 67 #[.string (bt R), .string (bt P), .slice (some ⟨b, 0, none⟩) k cap] w fun e w' => LenAns R P k L (R.length - totL L P) w.heap.size e w' ∧ Below w.heap.size w w'
  | 0, k, L, b, cap, w, hkd, hL, hL0, htot, hT => by
    obtain rfl : k = 3 := by omega
    have CG := Lib.hid (fun W hW => l10Given_any P R L b cap W hP hP8 hR hL hW)
    have HT := Lib.hid hT
    have hv3 : vsFrom P 3 = [] := rfl
    have hans : ∀ e w', GivAns R P L w.heap.size e w' → LenAns R P 3 L (R.length - totL L P) w.heap.size e w' := by
      intro e w' h
      unfold LenAns
      rw [hv3, srch]
      rcases h with ⟨v, rfl, h⟩ | ⟨v, W, rfl, h1, h2, h3⟩
      · by_cases e0 : R.length - totL L P = 0
        · rw [if_pos e0]
          rcases h with h | h
          · omega
          · rw [h]; exact ⟨v, rfl⟩
        · rw [if_neg e0]; exact ⟨v, rfl⟩
      · rw [if_pos (by omega), h2]
        exact ⟨v, rfl, h3⟩
    have HA := Lib.hid hans
    clear hans hL hL0 htot hT hv3
    go_enter Tryd.func67, Tryd.ntmps67
    go_wp2_with (go_at_call 131; refine (CG.out _ HT.out).mono ?_; rintro e w1 ⟨h1, b1⟩; have h2 := HA.out _ _ h1; rcases h1 with ⟨v, rfl, h3⟩ | ⟨v, W, rfl, h3, h4, h5⟩)
    · go_ret2
      exact ⟨h2, b1⟩
    · go_ret2
      exact ⟨h2, b1⟩
  | d + 1, k, L, b, cap, w, hkd, hL, hL0, htot, hT => by
    obtain ⟨i0, hi, hz0, hz1, hz2⟩ := info_parts infoIntG
    have hk3 : k < 3 := by omega
    have hps : (bt P).size = P.length := bt_size P
    have hrs : (bt R).size = R.length := bt_size R
    have hbs := hT.1
    have HP := Lib.hid hP
    have HT := Lib.hid hT
    have HL := Lib.hid hL
    have HL0 := Lib.hid hL0
    have hk0 : ((k : Int) == 3) = false := by rw [beq_eq_false_iff_ne]; omega
    have hu8 : IntKind.u8.wrap (65 + (k : Int)) = 65 + (k : Int) := IntWalk.u8_in _ (by omega)
    have hsm : ∀ i, totL L (P.take i) ≤ 480 := fun i => by
      have h1 : ∀ Q : List UInt8, totL L Q ≤ 60 * Q.length := fun Q => by
        induction Q with
        | nil => exact Nat.le_refl _
        | cons c Q ih => rw [totL, List.length_cons]; have := hL (vn c); omega
      have h2 := h1 (P.take i)
      rw [List.length_take] at h2
      omega
    have hcm : ∀ i, cntV (P.take i) k ≤ 8 := fun i => by
      have h1 := List.length_filter_le (fun c => decide (vn c = k)) (P.take i)
      rw [List.length_take] at h1
      unfold cntV; omega
    have HSM := Lib.hid hsm
    have HCM := Lib.hid hcm
    clear hP hT hL hL0 hsm hcm
    go_enter Tryd.func67, Tryd.ntmps67
    go_wp2_with fail
    go_loopw [9, 10, 11] (fun s9 s10 s11 wr => wr = w ∧ ∃ i : Nat, i ≤ P.length ∧ s11 = .int .i64 (i : Int) ∧ s9 = .int .i64 ((totL L (P.take i) : Nat) : Int) ∧ s10 = .int .i64 ((cntV (P.take i) k : Nat) : Int)) (fun _ _ s11 _ => P.length - (intOf s11).toNat)
    case atStart => exact ⟨rfl, 0, Nat.zero_le _, rfl, by simp [totL], by simp [cntV]⟩
    case round =>
      obtain ⟨rfl, i, hi1, rfl, rfl, rfl⟩ := hrel
      by_cases hp' : i < P.length
      · have hcm : P[i]'hp' ∈ P := List.getElem_mem hp'
        obtain ⟨hc1, hc2⟩ := HP.out _ hcm
        have htk := totL_takeG L P i hp'
        have hct := cntV_take P k i hp'
        obtain ⟨j, hj⟩ : ∃ j, vn (P[i]'hp') = j := ⟨_, rfl⟩
        have hj3 : j < 3 := by rw [← hj]; unfold vn; omega
        have hck : ((P[i]'hp').toNat : Int) = 65 + (j : Int) := by rw [← hj]; unfold vn; omega
        have hidx : ∀ W, (Instr.index 9 (.string (bt P)) (.int .i64 (i : Int))).run Tryd.prog W = .ok (.int .u8 (65 + (j : Int))) W := fun W => by
          rw [run_index_string (h := Tryd.underlying9), dif_pos ⟨by omega, by rw [hps]; omega⟩, ← hck]; rfl
        rw [hj] at htk hct
        have hS := HSM.out i
        have hC := HCM.out i
        have hLj := HL.out j
        have hA1 : ((totL L (P.take (i + 1)) : Nat) : Int) = (totL L (P.take i) : Int) + (L j : Int) := by omega
        have HA1 := Lib.hid hA1
        have HCT := Lib.hid hct
        clear htk hct hA1 hck hj hcm
        by_cases hjk : j = k
        · have hL00 : L j = 0 := HL0.out j (by omega)
          have HL00 := Lib.hid hL00
          have hq : ((65 + (j : Int)) == 65 + (k : Int)) = true := by rw [beq_iff_eq]; omega
          have hlt : ¬ (j : Int) < (k : Int) := by omega
          have hC1 : ((cntV (P.take (i + 1)) k : Nat) : Int) = (cntV (P.take i) k : Int) + 1 := by have := HCT.out; rw [if_pos hjk] at this; omega
          have HC1 := Lib.hid hC1
          clear hL00 hC1 hjk
          generalize totL L (P.take i) = A at *
          generalize cntV (P.take i) k = C at *
          go_wp2_with fail
          go_roundw
          case rel => exact ⟨(by first | rfl | trivial), i + 1, by omega, by go_num, by rw [HA1.out, HL00.out]; simp, by rw [HC1.out]⟩
          case measure => simp [intOf]; omega
        · have hq : ((65 + (j : Int)) == 65 + (k : Int)) = false := by rw [beq_eq_false_iff_ne]; omega
          have hC1 : cntV (P.take (i + 1)) k = cntV (P.take i) k := by have := HCT.out; rw [if_neg hjk] at this; omega
          have HC1 := Lib.hid hC1
          clear hC1
          by_cases hlt : j < k
          · have kl := HT.out.2 j hlt
            generalize totL L (P.take i) = A at *
            generalize cntV (P.take i) k = C at *
            go_wp2_with fail
            go_roundw
            case rel => exact ⟨(by first | rfl | trivial), i + 1, by omega, by go_num, by rw [HA1.out], by rw [HC1.out]⟩
            case measure => simp [intOf]; omega
          · have hL00 : L j = 0 := HL0.out j (by omega)
            have HL00 := Lib.hid hL00
            clear hL00 hjk
            generalize totL L (P.take i) = A at *
            generalize cntV (P.take i) k = C at *
            go_wp2_with fail
            go_roundw
            case rel => exact ⟨(by first | rfl | trivial), i + 1, by omega, by go_num, by rw [HA1.out, HL00.out]; simp, by rw [HC1.out]⟩
            case measure => simp [intOf]; omega
      · obtain rfl : i = P.length := by omega
        rw [List.take_length]
        have hcl := HCM.out P.length
        rw [List.take_length] at hcl
        by_cases hc0 : cntV P k = 0
        · have hq0 : (((cntV P k : Nat) : Int) == 0) = true := by rw [beq_iff_eq]; omega
          have hup : updV L k 0 = L := by
            funext j
            by_cases e : j = k
            · rw [e, updV_at, HL0.out k (Nat.le_refl _)]
            · rw [updV_ne _ _ e]
          have CI := Lib.hid (fun (W : World) (g c : Nat) (h : LensAt W g (updV L k 0) (k + 1)) => by
            rw [hup] at h
            exact l10Lengths_any P R HP.out hP8 hR d (k + 1) L g c W (by omega) HL.out (fun j hj => HL0.out j (by omega)) htot h)
          have hvm := vsFrom_miss hk3 hc0
          have HVM := Lib.hid hvm
          clear hup hvm hc0
          generalize cntV P k = C at *
          cases hr : srch R P (vsFrom P (k + 1)) L (R.length - totL L P) with
          | none =>
            have HR := Lib.hid hr
            clear hr
            go_wp2_with (first | (at_builtin; refine wpList_append_own _ rfl (.tmp 62) (.tmp 63) 47 rfl wr.heap.size 3 i0 (.int .i64 0) 1 8 Tryd.underlying47 hi hz0 hz1 hz2 rfl (by decide) _ 0 [] rfl (own_empty wr 3) ⟨b, 0, none⟩ k cap (lensV L k) rfl (by rw [lensV_len, Nat.mul_one]) (lens_news (HT.out.past (Below.new wr _))) (lens_one L k) (by unfold maxLen; omega) (by omega) (by simp) ?_; intro v1 x1 hown1 hgrow1 hnil1; have hv1 : v1 ≠ .slice none 0 0 := (fun q => by have := (hnil1.1 q).1; cases this); rw [Nat.zero_add, List.nil_append] at hown1; obtain ⟨g1, cap1, rfl⟩ := own_slice hown1 hv1; have hx1 : Below wr.heap.size wr x1 := (Below.new wr _).grown hgrow1 (by simp) (fun q hq => by cases hq; exact Nat.le_refl _); have hx1z := hx1.size; have HO1 := Lib.hid hown1; clear hown1 hgrow1 hnil1 hv1) | (at_builtin; refine wpList_append_own _ rfl (.tmp 64) (.tmp 65) 47 rfl wr.heap.size 3 i0 (.int .i64 0) 1 8 Tryd.underlying47 hi hz0 hz1 hz2 rfl (by decide) _ k (lensV L k) rfl (World.ownsRow.alloc HO1.out _) ⟨_, 0, none⟩ 1 1 [.int .i64 0] rfl rfl (cell_new _ _ _) (by intro u hu; simp at hu; subst hu; rfl) (by unfold maxLen; omega) (by omega) (by simp; omega) ?_; intro v2 x2 hown2 hgrow2 hnil2; obtain ⟨g2, cap2, rfl, hg2, hg2l, hc2⟩ := own_blk hown2; have hx2 : Below wr.heap.size wr x2 := (hx1.alloc hx1z _).grown hgrow2 (by simp; omega) (fun q hq => (HO1.out.lt q hq).1); rw [lensV_snoc0 L k] at hown2; have hla := lens_at hown2; clear hown2 hgrow2 hnil2) | (go_at_call 67; refine (CI.out _ _ _ hla).mono ?_; rintro e x3 ⟨he, b3⟩; unfold LenAns at he; rw [HR.out] at he; obtain ⟨v3, rfl⟩ := he))
            go_ret2
            exact ⟨by unfold LenAns; rw [HVM.out, HR.out]; exact ⟨_, rfl⟩, hx2.then b3⟩
          | some W =>
            have HR := Lib.hid hr
            clear hr
            go_wp2_with (first | (at_builtin; refine wpList_append_own _ rfl (.tmp 62) (.tmp 63) 47 rfl wr.heap.size 3 i0 (.int .i64 0) 1 8 Tryd.underlying47 hi hz0 hz1 hz2 rfl (by decide) _ 0 [] rfl (own_empty wr 3) ⟨b, 0, none⟩ k cap (lensV L k) rfl (by rw [lensV_len, Nat.mul_one]) (lens_news (HT.out.past (Below.new wr _))) (lens_one L k) (by unfold maxLen; omega) (by omega) (by simp) ?_; intro v1 x1 hown1 hgrow1 hnil1; have hv1 : v1 ≠ .slice none 0 0 := (fun q => by have := (hnil1.1 q).1; cases this); rw [Nat.zero_add, List.nil_append] at hown1; obtain ⟨g1, cap1, rfl⟩ := own_slice hown1 hv1; have hx1 : Below wr.heap.size wr x1 := (Below.new wr _).grown hgrow1 (by simp) (fun q hq => by cases hq; exact Nat.le_refl _); have hx1z := hx1.size; have HO1 := Lib.hid hown1; clear hown1 hgrow1 hnil1 hv1) | (at_builtin; refine wpList_append_own _ rfl (.tmp 64) (.tmp 65) 47 rfl wr.heap.size 3 i0 (.int .i64 0) 1 8 Tryd.underlying47 hi hz0 hz1 hz2 rfl (by decide) _ k (lensV L k) rfl (World.ownsRow.alloc HO1.out _) ⟨_, 0, none⟩ 1 1 [.int .i64 0] rfl rfl (cell_new _ _ _) (by intro u hu; simp at hu; subst hu; rfl) (by unfold maxLen; omega) (by omega) (by simp; omega) ?_; intro v2 x2 hown2 hgrow2 hnil2; obtain ⟨g2, cap2, rfl, hg2, hg2l, hc2⟩ := own_blk hown2; have hx2 : Below wr.heap.size wr x2 := (hx1.alloc hx1z _).grown hgrow2 (by simp; omega) (fun q hq => (HO1.out.lt q hq).1); rw [lensV_snoc0 L k] at hown2; have hla := lens_at hown2; clear hown2 hgrow2 hnil2) | (go_at_call 67; refine (CI.out _ _ _ hla).mono ?_; rintro e x3 ⟨he, b3⟩; unfold LenAns at he; rw [HR.out] at he; obtain ⟨v3, rfl, hown3⟩ := he))
            go_ret2
            exact ⟨by unfold LenAns; rw [HVM.out, HR.out]; exact ⟨_, rfl, own_base hown3 hx2.size⟩, hx2.then b3⟩
        · have hcp : 0 < cntV P k := by omega
          have hq0 : (((cntV P k : Nat) : Int) == 0) = false := by rw [beq_eq_false_iff_ne]; omega
          have hvh := vsFrom_hit hk3 hcp
          have htu := fun n => totL_upd L k n (HL0.out k (Nat.le_refl _)) P
          have HTU := Lib.hid htu
          obtain ⟨T, hTe⟩ : ∃ T, totL L P = T := ⟨_, rfl⟩
          obtain ⟨c, hce⟩ : ∃ c, cntV P k = c := ⟨_, rfl⟩
          obtain ⟨F, hF⟩ : ∃ F : Nat → Option (Nat → List UInt8), (fun n => if n * c ≤ R.length - T then srch R P (vsFrom P (k + 1)) (updV L k n) (R.length - T - n * c) else none) = F := ⟨_, rfl⟩
          have hsr : srch R P (vsFrom P k) L (R.length - totL L P) = (List.range' 1 (R.length - T)).findSome? F := by
            rw [hvh, srch, ← hF, hce, hTe]
          have HSR := Lib.hid hsr
          have HF := Lib.hid hF
          have HTE := Lib.hid hTe
          have HCE := Lib.hid hce
          rw [hTe] at htot ⊢
          rw [hce] at hcp hq0 hcl ⊢
          clear hsr hF hvh hc0 htu
          go_wp2_with fail
          obtain ⟨wo, rfl⟩ : ∃ wo, wo = wr := ⟨_, rfl⟩
          go_loopw [12] (fun s12 wq => ∃ n : Nat, 1 ≤ n ∧ n ≤ R.length + 1 ∧ s12 = .int .i64 (n : Int) ∧ NoneS F n ∧ Below wo.heap.size wo wq) (fun s12 _ => R.length + 1 - (intOf s12).toNat)
          case atStart => exact ⟨1, Nat.le_refl _, by omega, rfl, fun a b q => by omega, Below.refl _ _⟩
          case round =>
            obtain ⟨n, hn1, hn2, rfl, hno, hB⟩ := hrel
            have HNO := Lib.hid hno
            have hBz := hB.size
            have emc : ((n * c : Nat) : Int) = (n : Int) * (c : Int) := Int.natCast_mul n c
            have hmc1 : n * c ≤ 61 * 8 := Nat.mul_le_mul (by omega) hcl
            have hmm : n ≤ n * c := Nat.le_mul_of_pos_right n hcp
            clear hno
            by_cases hle : T + n * c ≤ R.length
            · have hle2 : (T : Int) + (n : Int) * (c : Int) ≤ (R.length : Int) := by omega
              have hn60 : n ≤ 60 := by omega
              have hFn : F n = srch R P (vsFrom P (k + 1)) (updV L k n) (R.length - T - n * c) := by rw [← HF.out]; exact if_pos (by omega)
              have CI := Lib.hid (fun (W : World) (g cc : Nat) (h : LensAt W g (updV L k n) (k + 1)) => by
                have q := l10Lengths_any P R HP.out hP8 hR d (k + 1) (updV L k n) g cc W (by omega) (fun j => by
                  by_cases e : j = k
                  · rw [e, updV_at]; exact hn60
                  · rw [updV_ne _ _ e]; exact HL.out j) (fun j hj => by rw [updV_ne _ _ (by omega)]; exact HL0.out j (by omega)) (by rw [HTU.out, HTE.out, HCE.out]; exact hle) h
                rw [HTU.out, HTE.out, HCE.out, Nat.sub_add_eq] at q
                exact q)
              have HFN := Lib.hid hFn
              have HEMC := Lib.hid emc
              clear hFn emc
              cases hr : srch R P (vsFrom P (k + 1)) (updV L k n) (R.length - T - n * c) with
              | none =>
                have HR := Lib.hid hr
                clear hr
                go_wp2_with (first | (at_builtin; refine wpList_append_own _ rfl (.tmp 83) (.tmp 84) 47 rfl wr.heap.size 3 i0 (.int .i64 0) 1 8 Tryd.underlying47 hi hz0 hz1 hz2 rfl (by decide) _ 0 [] rfl (own_empty wr 3) ⟨b, 0, none⟩ k cap (lensV L k) rfl (by rw [lensV_len, Nat.mul_one]) (lens_news ((HT.out.past hB).past (Below.new wr _))) (lens_one L k) (by unfold maxLen; omega) (by omega) (by simp) ?_; intro v1 x1 hown1 hgrow1 hnil1; have hv1 : v1 ≠ .slice none 0 0 := (fun q => by have := (hnil1.1 q).1; cases this); rw [Nat.zero_add, List.nil_append] at hown1; obtain ⟨g1, cap1, rfl⟩ := own_slice hown1 hv1; have hx1 : Below wr.heap.size wr x1 := (Below.new wr _).grown hgrow1 (by simp) (fun q hq => by cases hq; exact Nat.le_refl _); have hx1z := hx1.size; have HO1 := Lib.hid hown1; clear hown1 hgrow1 hnil1 hv1) | (at_builtin; refine wpList_append_own _ rfl (.tmp 85) (.tmp 87) 47 rfl wr.heap.size 3 i0 (.int .i64 0) 1 8 Tryd.underlying47 hi hz0 hz1 hz2 rfl (by decide) _ k (lensV L k) rfl (World.ownsRow.alloc HO1.out _) ⟨_, 0, none⟩ 1 1 [.int .i64 (n : Int)] rfl rfl (cell_new _ _ _) (by intro u hu; simp at hu; subst hu; rfl) (by unfold maxLen; omega) (by omega) (by simp; omega) ?_; intro v2 x2 hown2 hgrow2 hnil2; obtain ⟨g2, cap2, rfl, hg2, hg2l, hc2⟩ := own_blk hown2; have hx2 : Below wr.heap.size wr x2 := (hx1.alloc hx1z _).grown hgrow2 (by simp; omega) (fun q hq => (HO1.out.lt q hq).1); rw [lensV_snoc L k n] at hown2; have hla := lens_at hown2; clear hown2 hgrow2 hnil2) | (go_at_call 67; refine (CI.out _ _ _ hla).mono ?_; rintro e x3 ⟨he, b3⟩; unfold LenAns at he; rw [HR.out] at he; obtain ⟨v3, rfl⟩ := he))
                go_roundw
                case rel =>
                  have hno2 : NoneS F (n + 1) := fun a b q => by
                    by_cases e : a < n
                    · exact HNO.out a b e
                    · rw [show a = n by omega, HFN.out, HR.out]
                  exact ⟨n + 1, by omega, by omega, by go_num, hno2, hB.then (hx2.then b3)⟩
                case measure => simp [intOf]; omega
              | some W =>
                have HR := Lib.hid hr
                clear hr
                go_wp2_with (first | (at_builtin; refine wpList_append_own _ rfl (.tmp 83) (.tmp 84) 47 rfl wr.heap.size 3 i0 (.int .i64 0) 1 8 Tryd.underlying47 hi hz0 hz1 hz2 rfl (by decide) _ 0 [] rfl (own_empty wr 3) ⟨b, 0, none⟩ k cap (lensV L k) rfl (by rw [lensV_len, Nat.mul_one]) (lens_news ((HT.out.past hB).past (Below.new wr _))) (lens_one L k) (by unfold maxLen; omega) (by omega) (by simp) ?_; intro v1 x1 hown1 hgrow1 hnil1; have hv1 : v1 ≠ .slice none 0 0 := (fun q => by have := (hnil1.1 q).1; cases this); rw [Nat.zero_add, List.nil_append] at hown1; obtain ⟨g1, cap1, rfl⟩ := own_slice hown1 hv1; have hx1 : Below wr.heap.size wr x1 := (Below.new wr _).grown hgrow1 (by simp) (fun q hq => by cases hq; exact Nat.le_refl _); have hx1z := hx1.size; have HO1 := Lib.hid hown1; clear hown1 hgrow1 hnil1 hv1) | (at_builtin; refine wpList_append_own _ rfl (.tmp 85) (.tmp 87) 47 rfl wr.heap.size 3 i0 (.int .i64 0) 1 8 Tryd.underlying47 hi hz0 hz1 hz2 rfl (by decide) _ k (lensV L k) rfl (World.ownsRow.alloc HO1.out _) ⟨_, 0, none⟩ 1 1 [.int .i64 (n : Int)] rfl rfl (cell_new _ _ _) (by intro u hu; simp at hu; subst hu; rfl) (by unfold maxLen; omega) (by omega) (by simp; omega) ?_; intro v2 x2 hown2 hgrow2 hnil2; obtain ⟨g2, cap2, rfl, hg2, hg2l, hc2⟩ := own_blk hown2; have hx2 : Below wr.heap.size wr x2 := (hx1.alloc hx1z _).grown hgrow2 (by simp; omega) (fun q hq => (HO1.out.lt q hq).1); rw [lensV_snoc L k n] at hown2; have hla := lens_at hown2; clear hown2 hgrow2 hnil2) | (go_at_call 67; refine (CI.out _ _ _ hla).mono ?_; rintro e x3 ⟨he, b3⟩; unfold LenAns at he; rw [HR.out] at he; obtain ⟨v3, rfl, hown3⟩ := he))
                go_ret2
                exact ⟨by unfold LenAns; rw [← HTE.out, HSR.out, seek_at HNO.out hn1 (by omega) (by rw [HFN.out, HR.out])]; exact ⟨_, rfl, own_base hown3 (by have := hx2.size; omega)⟩, hB.then (hx2.then b3)⟩
            · have hle2 : ¬ (T : Int) + (n : Int) * (c : Int) ≤ (R.length : Int) := by omega
              have hend : srch R P (vsFrom P k) L (R.length - totL L P) = none := by
                rw [HSR.out]
                refine seek_none fun a b q => ?_
                by_cases e : a < n
                · exact HNO.out a b e
                · rw [← HF.out]
                  have h3 : n * c ≤ a * c := Nat.mul_le_mul_right c (by omega)
                  exact if_neg (by omega)
              have HEND := Lib.hid hend
              have HEMC := Lib.hid emc
              clear hend emc
              go_wp2_with fail
              go_ret2
              exact ⟨by unfold LenAns; rw [← HTE.out, HEND.out]; exact ⟨_, rfl⟩, hB⟩

end Go.Proofs.YtfipbnognjepkaaDoor

/-! ### PlcS -/
namespace Go.Proofs.YtfipbnognjepkaaDoor
set_option linter.unusedVariables false
set_option linter.unusedSimpArgs false
open Go.RowKit

theorem outs_vals {X P : List UInt8} {W : Nat → List UInt8} (h : ∀ v, W v ≠ [] ↔ 0 < cntV P v) : outsV W 3 = valsB (vsOf P) W := by
  unfold outsV valsB vsOf
  congr 1
  refine List.filter_congr fun v _ => ?_
  exact decide_eq_decide.2 (h v)
set_option maxRecDepth 100000 in
theorem bt_mid (l : List UInt8) (a b : Nat) (h1 : a ≤ b) (h : b ≤ l.length) (W : World) : (Instr.slice 9 (.string (bt l)) (some (.int .i64 (a : Int))) (some (.int .i64 (b : Int))) none).run Tryd.prog W = .ok (.string (bt ((l.drop a).take (b - a)))) W := by
  have := run_slice_string (P := Tryd.prog) W 9 (bt l) .i64 .i64 (a : Int) (b : Int) Tryd.underlying9 (by omega) (by omega) (by rw [bt_size]; omega)
  have e : (bt l).extract a b = bt ((l.drop a).take (b - a)) := bl_inj (by rw [bl_extract]; rfl)
  simpa [e] using this
theorem fitsB_mid {X P : List UInt8} {a b : Nat} (h : b ≤ X.length) (h1 : a ≤ b) : fitsB ((X.drop a).take (b - a)) P = (fitL (X.drop a) P (b - a)).isSome := by
  unfold fitsB
  have e : ((X.drop a).take (b - a)).length = b - a := by rw [List.length_take, List.length_drop]; omega
  rw [e, fitL_take]
theorem pff_hit {X P : List UInt8} {i m : Nat} {W : Nat → List UInt8} (h1 : ∀ j, j < i → pffAt X P j = none) (hi : i < X.length) (h2 : ∀ k, i + P.length ≤ k → k < m → fitL (X.drop i) P (k - i) = none) (hm : i + P.length ≤ m) (hm2 : m ≤ X.length) (hW : fitL (X.drop i) P (m - i) = some W) : pff X P = some (i, W) := by
  unfold pff
  refine rseek_at h1 hi ?_
  unfold pffAt
  refine rseek_at (j := m - i - P.length) (fun k hk => ?_) (by omega) ?_
  · have := h2 (i + P.length + k) (by omega) (by omega)
    rw [show i + P.length + k - i = P.length + k by omega] at this
    rw [this]; rfl
  · rw [show P.length + (m - i - P.length) = m - i by omega, hW]; rfl
theorem pffAt_miss {X P : List UInt8} {i m : Nat} (h2 : ∀ k, i + P.length ≤ k → k < m → fitL (X.drop i) P (k - i) = none) (hm : X.length < m) : pffAt X P i = none := by
  unfold pffAt
  refine rseek_none fun k hk => ?_
  have := h2 (i + P.length + k) (by omega) (by omega)
  rw [show i + P.length + k - i = P.length + k by omega] at this
  rw [this]; rfl
def NoAt (F : Nat → Option (Nat × (Nat → List UInt8))) (i : Nat) : Prop := ∀ j, j < i → F j = none
def NoUp (F : Nat → Option (Nat → List UInt8)) (a m : Nat) : Prop := ∀ k, a ≤ k → k < m → F k = none

set_option maxRecDepth 100000 in
set_option maxHeartbeats 4000000 in
theorem spec_FirstPlace (x p : ByteArray) (w : World) (sx : x.size ≤ maxLen) (sp : p.size ≤ maxLen) :
    Calls Tryd.prog 13 #[.string x, .string p] w (RetP (placeR x p) w) := by
  by_cases h : IsW x ∧ IsP p
  · have HC := Lib.hid (fun W => l10Code_yes x p h W)
    have hx60 := h.1.size
    have hp8 := h.2.2.1
    have hP := h.2.list
    have hxl : (bl x).length = x.size := bl_len x
    have hpl : (bl p).length = p.size := bl_len p
    have HH := Lib.hid h
    obtain ⟨X, hX⟩ : ∃ X, bl x = X := ⟨_, rfl⟩
    obtain ⟨P, hPe⟩ : ∃ P, bl p = P := ⟨_, rfl⟩
    have hbx : bt X = x := by rw [← hX, bt_bl]
    have hbp : bt P = p := by rw [← hPe, bt_bl]
    rw [hX] at hxl
    rw [hPe] at hpl hP
    have HX := Lib.hid hX
    have HPE := Lib.hid hPe
    have HP := Lib.hid hP
    have HF := Lib.hid (fun (W : World) (a b : Nat) (h1 : a ≤ b) (h2 : b ≤ X.length) => by
      have q := l10Fits_any ((X.drop a).take (b - a)) P HP.out (by omega) (by rw [List.length_take, List.length_drop]; omega) W
      rw [fitsB_mid h2 h1, hbp] at q; exact q)
    have HL := Lib.hid (fun (W : World) (a b g : Nat) (h1 : a ≤ b) (h2 : b ≤ X.length) (hg : g < W.heap.size) => by
      have q := l10Lengths_any P ((X.drop a).take (b - a)) HP.out (by omega) (by rw [List.length_take, List.length_drop]; omega) 3 0 (fun _ => 0) g 0 W rfl (fun _ => Nat.zero_le _) (fun _ _ => rfl) (by rw [totL_zero]; exact Nat.zero_le _) ⟨hg, fun j hj => absurd hj (Nat.not_lt_zero _)⟩
      rw [hbp] at q; exact q)
    have hans : ∀ (a b B : Nat) (W : Nat → List UInt8) (e : Ending) (w' : World), a ≤ b → b ≤ X.length → fitL (X.drop a) P (b - a) = some W → LenAns ((X.drop a).take (b - a)) P 0 (fun _ => 0) (((X.drop a).take (b - a)).length - totL (fun _ => 0) P) B e w' → ∃ v, e = .returned (.tuple #[v, .bool true]) ∧ OwnS w' B v (valsB (vsOf P) W) := by
      intro a b B W e w' h1 h2 hf hl
      unfold LenAns at hl
      have e1 : ((X.drop a).take (b - a)).length = b - a := by rw [List.length_take, List.length_drop]; omega
      have e2 : srch ((X.drop a).take (b - a)) P (vsFrom P 0) (fun _ => 0) (b - a) = some W := by rw [vsFrom_zero, ← hf]; exact fitL_take _ _ _
      rw [e1, totL_zero, Nat.sub_zero, e2] at hl
      rw [← outs_vals (X := X) (P := P) (fun v => fitL_told HP.out hf (by rw [List.length_drop]; omega))]
      exact hl
    have HA := Lib.hid hans
    have HS := Lib.hid (fun (a b : Nat) (h1 : a ≤ b) (h2 : b ≤ X.length) => fun W => by have q := bt_mid X a b h1 h2 W; rw [hbx] at q; exact q)
    clear h hX hPe hbx hbp hP hans
    go_enter Tryd.func13, Tryd.ntmps13
    go_wp2_with (go_at_call 65; (with_reducible refine (HC.out _).mono ?_); rintro e w1 ⟨rfl, b1⟩)
    have hb1 := b1.size
    go_loopw [8] (fun s8 wr => ∃ i : Nat, i ≤ X.length ∧ s8 = .int .i64 (i : Int) ∧ NoAt (pffAt X P) i ∧ Below w.heap.size w wr) (fun s8 _ => X.length - (intOf s8).toNat)
    case atStart => exact ⟨0, Nat.zero_le _, rfl, fun j hj => absurd hj (Nat.not_lt_zero _), b1⟩
    case round =>
      obtain ⟨i, hi, rfl, hno, hB⟩ := hrel
      have HNO := Lib.hid hno
      clear hno
      have hBz := hB.size
      by_cases hlt : i < X.length
      · have hlt2 : (i : Int) < (x.size : Int) := by omega
        go_wp2_with fail
        obtain ⟨wo, rfl⟩ : ∃ wo, wo = wr := ⟨_, rfl⟩
        go_loopw [9] (fun s9 wq => ∃ m : Nat, i + P.length ≤ m ∧ m ≤ i + P.length + X.length + 1 ∧ s9 = .int .i64 (m : Int) ∧ NoUp (fun k => fitL (X.drop i) P (k - i)) (i + P.length) m ∧ Below wo.heap.size wo wq) (fun s9 _ => i + P.length + X.length + 1 - (intOf s9).toNat)
        case atStart => exact ⟨i + P.length, Nat.le_refl _, by omega, by go_num, fun k a b => by omega, Below.refl _ _⟩
        case round =>
          obtain ⟨m, hm1, hm2, rfl, hup, hBi⟩ := hrel
          have HUP := Lib.hid hup
          clear hup
          have hBiz := hBi.size
          by_cases hle : m ≤ X.length
          · have hle2 : (m : Int) ≤ (x.size : Int) := by omega
            have hs := HS.out i m (by omega) hle
            cases hf : fitL (X.drop i) P (m - i) with
            | none =>
              have CF := Lib.hid (fun W => HF.out W i m (by omega) hle)
              rw [hf] at CF
              have HFN := Lib.hid hf
              clear hf
              go_wp2_with (go_at_call 66; (with_reducible refine (CF.out _).mono ?_); rintro e w2 ⟨rfl, b2⟩)
              go_roundw
              case rel =>
                exact ⟨m + 1, by omega, by omega, by go_num, fun k a b => by
                  by_cases e : k = m
                  · rw [e]; exact HFN.out
                  · exact HUP.out k a (by omega), hBi.then b2⟩
              case measure => simp [intOf]; omega
            | some W =>
              have CF := Lib.hid (fun W => HF.out W i m (by omega) hle)
              rw [hf] at CF
              have CL := Lib.hid (fun (W' : World) g hg => HL.out W' i m g (by omega) hle hg)
              have CA := Lib.hid (fun B e w' => HA.out i m B W e w' (by omega) hle hf)
              have HE := Lib.hid (placeR_some HH.out (by rw [HX.out, HPE.out]; exact pff_hit HNO.out hlt HUP.out hm1 hle hf))
              clear hf
              go_wp2_with (first | (go_at_call 66; (with_reducible refine (CF.out _).mono ?_); rintro e w2 ⟨rfl, b2⟩) | (go_at_call 67; (with_reducible refine (CL.out _ _ (by simp)).mono ?_); rintro e w3 ⟨he, b3⟩; obtain ⟨v, rfl, hown⟩ := CA.out _ _ _ he))
              go_ret3
              have hb2 := b2.size
              refine ⟨v, by rw [HE.out]; rfl, ?_, ?_⟩
              · rw [HE.out, HPE.out]; exact hown.base (by simp; omega)
              · exact (((hB.then hBi).then b2).alloc (by have := ((hB.then hBi).then b2).size; omega) _).then b3
          · have hle2 : ¬ (m : Int) ≤ (x.size : Int) := by omega
            go_wp2_with fail
            go_roundw
            case rel =>
              exact ⟨i + 1, by omega, by go_num, fun j hj => by
                by_cases e : j = i
                · rw [e]; exact pffAt_miss HUP.out (by omega)
                · exact HNO.out j (by omega), hB.then hBi⟩
            case measure => simp [intOf]; omega
      · obtain rfl : i = X.length := by omega
        have hlt2 : ¬ ((X.length : Nat) : Int) < (x.size : Int) := by omega
        have HE := Lib.hid (placeR_none HH.out (by rw [HX.out, HPE.out]; exact rseek_none HNO.out))
        go_wp2_with fail
        go_ret3
        exact ⟨.slice none 0 0, by rw [HE.out]; rfl, by rw [HE.out]; exact OwnS.nil _ _, hB⟩
  · have hr := placeR_bad h
    have HR := Lib.hid hr
    have HC := Lib.hid (fun W => l10Code_no x p h sx sp W)
    clear h hr
    go_enter Tryd.func13, Tryd.ntmps13
    go_wp2_with (go_at_call 65; (with_reducible refine (HC.out _).mono ?_); rintro e w1 ⟨rfl, b1⟩)
    go_ret3
    exact ⟨.slice none 0 0, by rw [HR.out]; rfl, by rw [HR.out]; exact OwnS.nil _ _, b1⟩

end Go.Proofs.YtfipbnognjepkaaDoor

/-! ### FnPatPlain -/
namespace Go.Proofs.YtfipbnognjepkaaDoor
set_option linter.unusedVariables false
set_option linter.unusedSimpArgs false

theorem fits_AA {R : List UInt8} : Fits R [65, 65] ↔ ∃ u : List UInt8, u ≠ [] ∧ R = u ++ u := by
  constructor
  · rintro ⟨V, h1, h2⟩
    refine ⟨V (vn 65), h1 65 (List.mem_cons_self ..), ?_⟩
    rw [h2]
    simp [subV]
  · rintro ⟨u, h1, h2⟩
    refine ⟨fun _ => u, fun _ _ => h1, ?_⟩
    rw [h2]
    simp [subV]
theorem isPL_AA : IsPL [65, 65] := by
  intro c hc
  simp at hc
  subst hc
  decide
theorem has_AA (X : List UInt8) : hasB X [65, 65] = true ↔ (fs X).2 ≠ 0 := by
  rw [hasB_iff isPL_AA (by decide), Ne, fs_iff]
  constructor
  · rintro ⟨i, m, hm, hf⟩ hno
    obtain ⟨u, h1, h2⟩ := fits_AA.1 hf
    have hq : 0 < u.length := List.length_pos_iff.2 h1
    have hl : m = u.length + u.length := by
      have := congrArg List.length h2
      rw [List.length_take, List.length_drop, List.length_append] at this
      omega
    refine hno i u.length hq ⟨by omega, fun d hd => ?_⟩
    have g : ∀ k, k < m → X[i + k]? = (u ++ u)[k]? := by
      intro k hk
      rw [← h2, List.getElem?_take, if_pos hk, List.getElem?_drop]
    rw [g d (by omega), show i + d + u.length = i + (d + u.length) by omega, g (d + u.length) (by omega), List.getElem?_append_left hd, List.getElem?_append_right (by omega), show d + u.length - u.length = d by omega]
  · intro hno
    have hex : ∃ i q, 0 < q ∧ RepT X i q q := by
      apply Classical.byContradiction
      intro hc
      exact hno fun i q h0 h => hc ⟨i, q, h0, h⟩
    obtain ⟨i, q, h0, h1, h2⟩ := hex
    refine ⟨i, q + q, by omega, fits_AA.2 ⟨(X.drop i).take q, ?_, ?_⟩⟩
    · intro e
      have := congrArg List.length e
      rw [List.length_take, List.length_drop] at this
      simp at this
      omega
    · apply List.ext_getElem?
      intro k
      have hu : ((X.drop i).take q).length = q := by rw [List.length_take, List.length_drop]; omega
      by_cases hk : k < q
      · rw [List.getElem?_append_left (by omega), List.getElem?_take, List.getElem?_take, if_pos (by omega), if_pos hk]
      · by_cases hk2 : k < q + q
        · rw [List.getElem?_append_right (by omega), hu, List.getElem?_take, List.getElem?_take, if_pos hk2, if_pos (by omega), List.getElem?_drop, List.getElem?_drop]
          have := h2 (k - q) (by omega)
          rw [show i + (k - q) + q = i + k by omega] at this
          exact this.symm
        · rw [List.getElem?_eq_none (by rw [List.length_take, List.length_drop]; omega), List.getElem?_eq_none (by rw [List.length_append, hu]; omega)]
/-- How many of the variables ahead of the j-th stand in a pattern. -/
def cN (P : List UInt8) : Nat → Nat
  | 0 => 0
  | j + 1 => cN P j + (if 0 < cntV P j then 1 else 0)
theorem cN_all (P : List UInt8) : cN P 3 = (vsOf P).length := by
  unfold vsOf
  simp only [cN, List.filter_cons, List.filter_nil]
  by_cases h0 : 0 < cntV P 0 <;> by_cases h1 : 0 < cntV P 1 <;> by_cases h2 : 0 < cntV P 2 <;> simp [h0, h1, h2]
theorem cN_at {P : List UInt8} {k : Nat} (hk : k < 3) (h : 0 < cntV P k) : (vsOf P)[cN P k]? = some k := by
  have hc : k = 0 ∨ k = 1 ∨ k = 2 := by omega
  unfold vsOf
  simp only [List.filter_cons, List.filter_nil]
  rcases hc with rfl | rfl | rfl <;> by_cases h0 : 0 < cntV P 0 <;> by_cases h1 : 0 < cntV P 1 <;> by_cases h2 : 0 < cntV P 2 <;> simp_all [cN]
theorem vsOf_posP {P : List UInt8} (hP : IsPL P) (h0 : P ≠ []) : 0 < (vsOf P).length := by
  obtain ⟨c, t, rfl⟩ := List.exists_cons_of_ne_nil h0
  exact List.length_pos_iff_exists_mem.2 ⟨vn c, vsOf_mem.2 ⟨hP.vn (List.mem_cons_self ..), cntV_pos.2 ⟨c, List.mem_cons_self .., rfl⟩⟩⟩
theorem cN_le (P : List UInt8) : ∀ j, cN P j ≤ j
  | 0 => Nat.le_refl _
  | j + 1 => by
    have := cN_le P j
    rw [cN]
    split <;> omega

theorem cN_at_val {P : List UInt8} {W : Nat → List UInt8} {k : Nat} (hk : k < 3) (h : 0 < cntV P k) : ∃ hl : cN P k < ((vsOf P).map fun v => bt (W v)).length, ((vsOf P).map fun v => bt (W v))[cN P k]'hl = bt (W k) := by
  have h1 := cN_at hk h
  have h2 := (List.getElem?_eq_some_iff.1 h1).1
  refine ⟨by rw [List.length_map]; exact h2, ?_⟩
  rw [List.getElem_map]
  have h3 := (List.getElem?_eq_some_iff.1 h1).2
  rw [h3]
/-- The letters that the first j variables make. -/
def lenS (P : List UInt8) (W : Nat → List UInt8) : Nat → Nat
  | 0 => 0
  | j + 1 => lenS P W j + cntV P j * (W j).length
theorem totL_three (L : Nat → Nat) : ∀ {P : List UInt8}, IsPL P → totL L P = cntV P 0 * L 0 + cntV P 1 * L 1 + cntV P 2 * L 2
  | [], _ => by simp [totL, cntV]
  | c :: P, h => by
    have ih := totL_three L h.tail
    have hv := h.vn (List.mem_cons_self ..)
    rw [totL, ih, cntV_cons, cntV_cons, cntV_cons]
    have hc : vn c = 0 ∨ vn c = 1 ∨ vn c = 2 := by omega
    rcases hc with e | e | e <;> rw [e] <;> simp [Nat.add_mul] <;> omega
theorem lenS_all {P : List UInt8} (hP : IsPL P) (W : Nat → List UInt8) : lenS P W 3 = (subV W P).length := by
  rw [subV_len (fun v => (W v).length) W P (fun _ _ => rfl), totL_three _ hP]
  simp [lenS]
theorem lenS_le {P : List UInt8} {W : Nat → List UInt8} : ∀ {j k : Nat}, j ≤ k → lenS P W j ≤ lenS P W k
  | j, 0, h => by obtain rfl : j = 0 := by omega
                  exact Nat.le_refl _
  | j, k + 1, h => by
    by_cases e : j = k + 1
    · rw [e]; exact Nat.le_refl _
    · rw [lenS]
      have := lenS_le (P := P) (W := W) (show j ≤ k by omega)
      omega
theorem cntV_takeP (P : List UInt8) (v : Nat) (i : Nat) (h : i < P.length) : cntV (P.take (i + 1)) v = cntV (P.take i) v + (if vn (P[i]'h) = v then 1 else 0) := by
  rw [List.take_succ_eq_append_getElem h]
  unfold cntV
  rw [List.filter_append, List.length_append]
  congr 1
  by_cases e : vn (P[i]'h) = v
  · simp [e]
  · simp [e]
theorem cntV_len (P : List UInt8) (v : Nat) : cntV P v ≤ P.length := List.length_filter_le _ _
theorem subV_take (W : Nat → List UInt8) (P : List UInt8) (i : Nat) (h : i < P.length) : subV W (P.take (i + 1)) = subV W (P.take i) ++ W (vn (P[i]'h)) := by
  rw [List.take_succ_eq_append_getElem h]
  unfold subV
  rw [List.flatMap_append]
  simp
/-- The table of places of the variables below j. -/
def tblA (P : List UInt8) (j : Nat) (k : Nat) : Int := if k < j ∧ 0 < cntV P k then (cN P k : Int) else -1
theorem tblA_new {P : List UInt8} {j : Nat} (h : 0 < cntV P j) (k : Nat) : tblA P (j + 1) k = if k = j then (cN P j : Int) else tblA P j k := by
  unfold tblA
  by_cases e : k = j
  · subst e
    rw [if_pos ⟨by omega, h⟩, if_pos rfl]
  · rw [if_neg e]
    by_cases h2 : k < j ∧ 0 < cntV P k
    · rw [if_pos h2, if_pos ⟨by omega, h2.2⟩]
    · rw [if_neg h2, if_neg (fun q => h2 ⟨by omega, q.2⟩)]
theorem tblA_old {P : List UInt8} {j : Nat} (h : cntV P j = 0) (k : Nat) : tblA P (j + 1) k = tblA P j k := by
  unfold tblA
  by_cases h2 : k < j ∧ 0 < cntV P k
  · rw [if_pos h2, if_pos ⟨by omega, h2.2⟩]
  · rw [if_neg h2, if_neg (fun q => h2 ⟨by
      have := q.1
      by_cases e : k = j
      · subst e; omega
      · omega, q.2⟩)]
theorem tblA_here (P : List UInt8) (j : Nat) : tblA P j j = -1 := if_neg (fun q => by omega)
theorem tblA_hit {P : List UInt8} {j : Nat} (h : 0 < cntV P j) : tblA P (j + 1) j = (cN P j : Int) := if_pos ⟨by omega, h⟩
theorem tblA_all {P : List UInt8} {k : Nat} (hk : k < 3) (h : 0 < cntV P k) : tblA P 3 k = (cN P k : Int) := if_pos ⟨hk, h⟩
theorem cN_new {P : List UInt8} {j : Nat} (h : 0 < cntV P j) : cN P (j + 1) = cN P j + 1 := by rw [cN, if_pos h]
theorem cN_old {P : List UInt8} {j : Nat} (h : cntV P j = 0) : cN P (j + 1) = cN P j := by rw [cN, if_neg (by omega)]; rfl

end Go.Proofs.YtfipbnognjepkaaDoor

/-! ### Draw10B -/
namespace Go.Proofs.YtfipbnognjepkaaDoor
set_option linter.unusedVariables false
set_option linter.unusedSimpArgs false
open Go.RowKit

theorem wrap64_inB {y : Int} (h0 : -4611686018427387904 ≤ y) (h1 : y ≤ 4611686018427387904) : wrap64 y = y := by unfold wrap64; omega
def TwoTB (w : World) (e : Ending) (w' : World) : Prop := ∃ x y : ByteArray, e = .returned (.tuple #[.string x, .string y]) ∧ x.size ≤ 1000 ∧ y.size ≤ 1000 ∧ Below w.heap.size w w'
def Vals3 (W : World) (g : Nat) (L : List ByteArray) : Prop := g < W.heap.size ∧ L.length = 3 ∧ ∀ j (h : j < L.length), W.cell? ⟨g, j, none⟩ = some (.string (L[j]'h))
theorem Vals3.past {W W' : World} {g : Nat} {L : List ByteArray} (h : Vals3 W g L) (hB : Below W.heap.size W W') : Vals3 W' g L := ⟨Nat.lt_of_lt_of_le h.1 hB.size, h.2.1, fun j hj => by rw [(bcell hB).1 g j h.1]; exact h.2.2 j hj⟩

set_option maxRecDepth 100000 in
set_option maxHeartbeats 8000000 in
theorem l10With_any (a : Option Addr) (len cap : Nat) (zs : List Int) (w : World) (h : IsRow .u8 w a len cap zs) (hl : len ≤ 1048576) :
    Calls Tryd.prog 74 #[.slice a len cap] w (TwoTB w) := by
  have CF := Lib.hid (l01From_any a len cap zs w h hl)
  clear h
  go_enter Tryd.func74, Tryd.ntmps74
  go_wp2_with fail
  refine CF.out.mono ?_
  rintro e W0 ⟨rfl, s0, hB0⟩
  have HB0 := s0.ge
  clear CF
  have C1 := Lib.hid (l10DrawOf_any w W0 w.heap.size s0 hB0)
  clear s0
  go_wp2_with fail
  refine C1.out.mono ?_
  rintro e W1 ⟨p, rfl, hp, s1, g1⟩
  have hB1 := below_src hB0 HB0 g1
  clear C1 hB0 g1
  have hp8 := hp.1
  have hl1 := s1.lt
  go_wp2_with fail
  refine (l01Pick_any w _ w.heap.size _ ([8, 14, 20] : List Int) (s1.below (Below.new _ _)) (hB1.alloc hB1.size _) (by simp) (by omega) (by simp) (by simp) (cells_new_ints W1 [8, 14, 20] _)).mono ?_
  rintro e W2 ⟨z, rfl, hz, s2, g2⟩
  have hz2 : 8 ≤ z ∧ z ≤ 20 := by simp at hz; omega
  have hB2 := below_src (hB1.alloc hB1.size _) HB0 g2
  clear hz s1 hB1 g2 hl1
  have C3 := Lib.hid (l01Next_i w W2 w.heap.size z s2 hB2 (by omega) (by omega))
  clear s2
  go_wp2_with fail
  refine C3.out.mono ?_
  rintro e W3 ⟨v, rfl, v0, v1, s3, g3⟩
  have hB3 := below_src hB2 HB0 g3
  clear C3 hB2 g3
  have hl3 := s3.lt
  go_wp2_with fail
  refine (l01Pick_any w _ w.heap.size _ ([2, 2, 3, 4] : List Int) (s3.below (Below.new _ _)) (hB3.alloc hB3.size _) (by simp) (by omega) (by simp) (by simp) (cells_new_ints W3 [2, 2, 3, 4] _)).mono ?_
  rintro e W4 ⟨k, rfl, hk, s4, g4⟩
  have hk2 : 2 ≤ k ∧ k ≤ 4 := by simp at hk; omega
  have hB4 := below_src (hB3.alloc hB3.size _) HB0 g4
  clear hk s3 hB3 g4 hl3
  have C5 := Lib.hid (l01DrawOf_any w W4 w.heap.size (v) k s4 hB4 (by omega) (by omega) (by omega) (by omega))
  clear s4
  go_wp2_with fail
  refine C5.out.mono ?_
  rintro e W5 ⟨x, rfl, hx, s5, g5⟩
  have hB5 := below_src hB4 HB0 g5
  clear C5 hB4 g5
  have C6 := Lib.hid (l01Next_i w W5 w.heap.size 4 s5 hB5 (by omega) (by omega))
  clear s5
  go_wp2_with fail
  refine C6.out.mono ?_
  rintro e W6 ⟨y, rfl, y0, y1, s6, g6⟩
  have hB6 := below_src hB5 HB0 g6
  clear C6 hB5 g6
  have hxs : x.size ≤ 20 := by omega
  clear hx v0 v1 hz2 hk2
  by_cases hy0 : y = 0
  · subst hy0
    have C7 := Lib.hid (l01Next_i w W6 w.heap.size 3 s6 hB6 (by omega) (by omega))
    clear s6
    go_wp2_with fail
    refine C7.out.mono ?_
    rintro e W7 ⟨n1, rfl, n10, n11, s7, g7⟩
    have hB7 := below_src hB6 HB0 g7
    clear C7 hB6 g7
    have C8 := Lib.hid (l01DrawOf_any w W7 w.heap.size (1 + n1) 2 s7 hB7 (by omega) (by omega) (by omega) (by omega))
    clear s7
    go_wp2_with fail
    refine C8.out.mono ?_
    rintro e W8 ⟨u1, rfl, hu1, s8, g8⟩
    have hB8 := below_src hB7 HB0 g8
    clear C8 hB7 g8
    have C9 := Lib.hid (l01Next_i w W8 w.heap.size 2 s8 hB8 (by omega) (by omega))
    clear s8
    go_wp2_with fail
    refine C9.out.mono ?_
    rintro e W9 ⟨n2, rfl, n20, n21, s9, g9⟩
    have hB9 := below_src hB8 HB0 g9
    clear C9 hB8 g9
    have C10 := Lib.hid (l01DrawOf_any w W9 w.heap.size (1 + n2) 3 s9 hB9 (by omega) (by omega) (by omega) (by omega))
    clear s9
    go_wp2_with fail
    refine C10.out.mono ?_
    rintro e W10 ⟨u2, rfl, hu2, s10, g10⟩
    have hB10 := below_src hB9 HB0 g10
    clear C10 hB9 g10
    have C11 := Lib.hid (l01Next_i w W10 w.heap.size 2 s10 hB10 (by omega) (by omega))
    clear s10
    go_wp2_with fail
    refine C11.out.mono ?_
    rintro e W11 ⟨n3, rfl, n30, n31, s11, g11⟩
    have hB11 := below_src hB10 HB0 g11
    clear C11 hB10 g11
    have C12 := Lib.hid (l01DrawOf_any w W11 w.heap.size (1 + n3) 3 s11 hB11 (by omega) (by omega) (by omega) (by omega))
    clear s11
    go_wp2_with fail
    refine C12.out.mono ?_
    rintro e W12 ⟨u3, rfl, hu3, s12, g12⟩
    have hB12 := below_src hB11 HB0 g12
    clear C12 hB11 g12
    have hu1s : u1.size ≤ 3 := by omega
    have hu2s : u2.size ≤ 3 := by omega
    have hu3s : u3.size ≤ 3 := by omega
    obtain ⟨WA, hWA⟩ : ∃ WA, WA = W12.alloc (.cells #[.string u1, .string u2, .string u3] 9) := ⟨_, rfl⟩
    have bA : Below W12.heap.size W12 WA := by rw [hWA]; exact Below.new _ _
    have hV : Vals3 WA W12.heap.size [u1, u2, u3] := by rw [hWA]; exact ⟨by simp, rfl, cells_new_strs W12 [u1, u2, u3] 9⟩
    have hVs : ∀ j (h : j < [u1, u2, u3].length), ([u1, u2, u3][j]'h).size ≤ 3 := by intro j h; match j, h with | 0, _ => exact hu1s | 1, _ => exact hu2s | 2, _ => exact hu3s
    have sA := s12.below bA
    have BA := hB12.then bA
    generalize [u1, u2, u3] = L at hV hVs
    generalize hG : W12.heap.size = G at hV
    clear s12 hB12 bA hu1 hu2 hu3 n10 n11 n20 n21 n30 n31
    have HPL := Lib.hid hp.2
    have hpl : (bl p).length = p.size := bl_len p
    have HVS := Lib.hid hVs
    have HV := Lib.hid hV
    clear hVs hV hp
    go_wp2_with fail
    rw [← hWA]
    try rw [hG]
    clear hWA hG
    go_loopw [8, 9] (fun s8 s9 wr => ∃ (i : Nat) (q : ByteArray), i ≤ p.size ∧ s9 = .int .i64 (i : Int) ∧ s8 = .string q ∧ q.size ≤ 3 * i ∧ wr = WA) (fun _ s9 _ => p.size - (intOf s9).toNat)
    case atStart => exact ⟨0, ⟨#[]⟩, Nat.zero_le _, rfl, rfl, Nat.le_refl _, rfl⟩
    case round =>
      obtain ⟨i, q, hi, rfl, rfl, hq, rfl⟩ := hrel
      by_cases hlt : i < p.size
      · have hlb : i < (bl p).length := by omega
        obtain ⟨hc1, hc2⟩ := HPL.out _ (List.getElem_mem hlb)
        obtain ⟨k, hk⟩ : ∃ k, vn ((bl p)[i]'hlb) = k := ⟨_, rfl⟩
        have hk3 : k < 3 := by rw [← hk]; unfold vn; omega
        have hck : (((bl p)[i]'hlb).toNat : Int) = (k : Int) + 65 := by rw [← hk]; unfold vn; omega
        have hidx : ∀ W, (Instr.index 9 (.string p) (.int .i64 (i : Int))).run Tryd.prog W = .ok (.int .u8 ((k : Int) + 65)) W := fun W => by
          rw [run_index_string (h := Tryd.underlying9), dif_pos ⟨by omega, by omega⟩, ← hck]; rfl
        obtain ⟨_, hL3, hcell⟩ := HV.out
        have hkl : k < L.length := by omega
        have kv := hcell k hkl
        have kz := HVS.out k hkl
        generalize L[k]'hkl = t at kv kz
        have hsum : ∀ W, (Op.stringOp .add q t).run Tryd.prog W = .ok (.string (q ++ t)) W := fun W => run_string_add_sum W q t (by omega)
        have hqt : (q ++ t).size = q.size + t.size := ByteArray.size_append
        generalize hcat : q ++ t = r at *
        clear hcat hk hck hc1 hc2 hcell
        go_wp2_with fail
        go_roundw
        case rel => exact ⟨i + 1, r, by omega, by go_num, rfl, by omega, by first | rfl | trivial⟩
        case measure => simp [intOf]; omega
      · have hq24 : q.size ≤ 24 := by omega
        have hlt2 : ¬ (i : Int) < (p.size : Int) := by omega
        skip
        obtain ⟨W62, hW⟩ : ∃ V, V = wr := ⟨_, rfl⟩
        subst hW
        have s62 := sA
        have hB62 := BA
        clear sA BA HV HVS hxs hlt
        have C63 := Lib.hid (l01Next_i w W62 w.heap.size 4 s62 hB62 (by omega) (by omega))
        clear s62
        go_wp2_with fail
        refine C63.out.mono ?_
        rintro e W63 ⟨m1, rfl, m10, m11, s63, g63⟩
        have hB63 := below_src hB62 HB0 g63
        clear C63 hB62 g63
        have C64 := Lib.hid (l01DrawOf_any w W63 w.heap.size (m1) 3 s63 hB63 (by omega) (by omega) (by omega) (by omega))
        clear s63
        go_wp2_with fail
        refine C64.out.mono ?_
        rintro e W64 ⟨y1, rfl, hy1, s64, g64⟩
        have hB64 := below_src hB63 HB0 g64
        clear C64 hB63 g64
        have hy1s : y1.size ≤ 3 := by omega
        clear hy1
        have hsum : ∀ W, (Op.stringOp .add y1 q).run Tryd.prog W = .ok (.string (y1 ++ q)) W := fun W => run_string_add_sum W y1 q (by omega)
        have hy2 : (y1 ++ q).size = y1.size + q.size := ByteArray.size_append
        generalize hcaty2 : y1 ++ q = y2 at *
        clear hcaty2
        have C65 := Lib.hid (l01Next_i w W64 w.heap.size 3 s64 hB64 (by omega) (by omega))
        clear s64
        go_wp2_with fail
        refine C65.out.mono ?_
        rintro e W65 ⟨m2, rfl, m20, m21, s65, g65⟩
        have hB65 := below_src hB64 HB0 g65
        clear C65 hB64 g65
        have C66 := Lib.hid (l01DrawOf_any w W65 w.heap.size (m2) 3 s65 hB65 (by omega) (by omega) (by omega) (by omega))
        clear s65
        go_wp2_with fail
        refine C66.out.mono ?_
        rintro e W66 ⟨y3, rfl, hy3, s66, g66⟩
        have hB66 := below_src hB65 HB0 g66
        clear C66 hB65 g66
        have hy3s : y3.size ≤ 3 := by omega
        clear hy3
        have hsum : ∀ W, (Op.stringOp .add y2 y3).run Tryd.prog W = .ok (.string (y2 ++ y3)) W := fun W => run_string_add_sum W y2 y3 (by omega)
        have hy4 : (y2 ++ y3).size = y2.size + y3.size := ByteArray.size_append
        generalize hcaty4 : y2 ++ y3 = y4 at *
        clear hcaty4
        have C67 := Lib.hid (l01Bad_any w W66 w.heap.size y4 s66 hB66 (by omega))
        clear s66
        go_wp2_with fail
        refine C67.out.mono ?_
        rintro e W67 ⟨xb, rfl, hxb, s67, g67⟩
        have hB67 := below_src hB66 HB0 g67
        clear C67 hB66 g67
        have hxb9 : xb.size ≤ 1000 := by omega
        have C68 := Lib.hid (l10Bad_any w W67 w.heap.size p s67 hB67 (by omega))
        clear s67
        go_wp2_with fail
        refine C68.out.mono ?_
        rintro e W68 ⟨pb, rfl, hpb, s68, g68⟩
        have hB68 := below_src hB67 HB0 g68
        clear C68 hB67 g68
        have hpb9 : pb.size ≤ 1000 := by omega
        go_wp2_with fail
        go_ret2
        exact ⟨xb, pb, rfl, hxb9, hpb9, hB68⟩
  · by_cases hy1 : y = 1
    · subst hy1
      have C7 := Lib.hid (l01Small_any w W6 w.heap.size s6 hB6)
      clear s6
      go_wp2_with fail
      refine C7.out.mono ?_
      rintro e W7 ⟨q, rfl, hq, s7, g7⟩
      have hB7 := below_src hB6 HB0 g7
      clear C7 hB6 g7
      have C8 := Lib.hid (l01Bad_any w W7 w.heap.size q s7 hB7 (by omega))
      clear s7
      go_wp2_with fail
      refine C8.out.mono ?_
      rintro e W8 ⟨xb, rfl, hxb, s8, g8⟩
      have hB8 := below_src hB7 HB0 g8
      clear C8 hB7 g8
      have hxb9 : xb.size ≤ 1000 := by omega
      have C9 := Lib.hid (l10Bad_any w W8 w.heap.size p s8 hB8 (by omega))
      clear s8
      go_wp2_with fail
      refine C9.out.mono ?_
      rintro e W9 ⟨pb, rfl, hpb, s9, g9⟩
      have hB9 := below_src hB8 HB0 g9
      clear C9 hB8 g9
      have hpb9 : pb.size ≤ 1000 := by omega
      go_wp2_with fail
      go_ret2
      exact ⟨xb, pb, rfl, hxb9, hpb9, hB9⟩
    · skip
      have C7 := Lib.hid (l01Bad_any w W6 w.heap.size x s6 hB6 (by omega))
      clear s6
      go_wp2_with fail
      refine C7.out.mono ?_
      rintro e W7 ⟨xb, rfl, hxb, s7, g7⟩
      have hB7 := below_src hB6 HB0 g7
      clear C7 hB6 g7
      have hxb9 : xb.size ≤ 1000 := by omega
      have C8 := Lib.hid (l10Bad_any w W7 w.heap.size p s7 hB7 (by omega))
      clear s7
      go_wp2_with fail
      refine C8.out.mono ?_
      rintro e W8 ⟨pb, rfl, hpb, s8, g8⟩
      have hB8 := below_src hB7 HB0 g8
      clear C8 hB7 g8
      have hpb9 : pb.size ≤ 1000 := by omega
      go_wp2_with fail
      go_ret2
      exact ⟨xb, pb, rfl, hxb9, hpb9, hB8⟩

set_option maxRecDepth 100000 in
theorem DrawFirstPlace_any (a : Option Addr) (len cap : Nat) (zs : List Int) (w : World) (h : IsRow .u8 w a len cap zs) (hl : len ≤ 1048576) :
    Calls Tryd.prog 19 #[.slice a len cap] w (TwoTB w) := by
  have CF := Lib.hid (l10With_any a len cap zs w h hl)
  clear h
  go_enter Tryd.func19, Tryd.ntmps19
  go_wp2_with fail
  refine CF.out.mono ?_
  rintro e W0 ⟨x, y, rfl, hx, hy, hB⟩
  go_wp2_with fail
  go_ret2
  exact ⟨x, y, rfl, hx, hy, hB⟩

/-- What is known of a first place that is told. -/
theorem placeR_cases (x p : ByteArray) : ((placeR x p).2.2 ≠ 0 ∧ (placeR x p).2.1 = []) ∨ (IsW x ∧ IsP p ∧ ∃ (i : Nat) (W : Nat → List UInt8), placeR x p = ((i : Int), valsB (vsOf (bl p)) W, 0) ∧ pff (bl x) (bl p) = some (i, W)) := by
  by_cases h : IsW x ∧ IsP p
  · cases hp : pff (bl x) (bl p) with
    | none => rw [placeR_none h hp]; exact .inl ⟨by decide, rfl⟩
    | some iW =>
      obtain ⟨i, W⟩ := iW
      exact .inr ⟨h.1, h.2, i, W, placeR_some h hp, rfl⟩
  · rw [placeR_bad h]; exact .inl ⟨by decide, rfl⟩

set_option maxRecDepth 100000 in
set_option maxHeartbeats 4000000 in
theorem DrawFitsPattern_any (a : Option Addr) (len cap : Nat) (zs : List Int) (w : World) (h : IsRow .u8 w a len cap zs) (hl : len ≤ 1048576) :
    Calls Tryd.prog 23 #[.slice a len cap] w (TwoTB w) := by
  have CF := Lib.hid (l01From_any a len cap zs w h hl)
  have HR := Lib.hid h
  clear h
  go_enter Tryd.func23, Tryd.ntmps23
  go_wp2_with fail
  refine CF.out.mono ?_
  rintro e W0 ⟨rfl, s0, hB0⟩
  have HB0 := s0.ge
  clear CF
  have CW := Lib.hid (l10With_any a len cap zs W0 (HR.out.below hB0) hl)
  go_wp2_with fail
  refine CW.out.mono ?_
  rintro e W1 ⟨x, p, rfl, hx, hp, b1⟩
  have s1 := s0.below b1
  have hB1 := hB0.then b1
  clear CW s0 hB0 b1 HR
  have sx : x.size ≤ maxLen := by unfold maxLen; omega
  have sp : p.size ≤ maxLen := by unfold maxLen; omega
  have CP := Lib.hid (spec_FirstPlace x p W1 sx sp)
  clear sx sp
  go_wp2_with fail
  refine CP.out.mono ?_
  rintro e W2 ⟨v, rfl, ho, b2⟩
  have s2 := s1.below b2
  have hs1lt := s1.lt
  have hB2 := hB1.then b2
  clear CP s1 hB1 b2
  rcases placeR_cases x p with ⟨hne, _⟩ | ⟨hX, hP, i, W, hr, hpf⟩
  · have hcf : ((placeR x p).2.2 == 0) = false := beq_eq_false_iff_ne.2 hne
    clear ho s2
    generalize (placeR x p).2.2 = c at hcf hne ⊢
    go_wp2_with fail
    go_ret2
    exact ⟨x, p, rfl, hx, hp, hB2⟩
  · rw [hr] at ho ⊢
    have CN := Lib.hid (l01Next_i w W2 w.heap.size 2 s2 hB2 (by omega) (by omega))
    have hP8 := hP.2.1
    have hX60 := hX.size
    have hPl := hP.list
    have hpl : (bl p).length = p.size := bl_len p
    have hxl : (bl x).length = x.size := bl_len x
    obtain ⟨hs1, hs2⟩ := pff_sub hPl hpf
    have hls := lenS_all hPl W
    have hvn : 0 < (valsB (vsOf (bl p)) W).length := by unfold valsB; rw [List.length_map]; exact vsOf_posP hPl (bl_ne hP.1)
    obtain ⟨g, cp, rfl, hgB, hgl, hcp, hvm, hvc, _⟩ := ho.row hvn
    have hvl3 : (valsB (vsOf (bl p)) W).length ≤ 3 := by unfold valsB; rw [List.length_map]; exact List.length_filter_le (fun v => decide (0 < cntV (bl p) v)) [0, 1, 2]
    have HVC := Lib.hid hvc
    have HLS := Lib.hid hls
    have HS2 := Lib.hid hs2
    have HPL := Lib.hid hPl
    have hmono := fun j (h : j ≤ 3) => lenS_le (P := bl p) (W := W) h
    have HMO := Lib.hid hmono
    have HVT := Lib.hid (fun k (hk : k < 3) (h : 0 < cntV (bl p) k) => cN_at_val (W := W) hk h)
    have HSL := Lib.hid (fun (a b : Nat) (h1 : a ≤ b) (h2 : b ≤ (bl x).length) => fun V => by have q := bt_mid (bl x) a b h1 h2 V; rw [bt_bl] at q; exact q)
    clear ho hvc hls hs2 hPl hmono hpf hX hP s2 hr
    go_wp2_with fail
    refine CN.out.mono ?_
    rintro e W3 ⟨y, rfl, y0, y1, s3, g3⟩
    have hB3 := below_src hB2 HB0 g3
    have hvc3 : ∀ k (hk : k < (valsB (vsOf (bl p)) W).length), W3.cell? ⟨g, k, none⟩ = some (.string ((valsB (vsOf (bl p)) W)[k]'hk)) := fun k hk => by
      rw [grown_cell g3 (p := ⟨g, k, none⟩) hgl (fun e => by have h : g = w.heap.size := Option.some.inj e; omega)]
      exact HVC.out k hk
    clear HVC
    have HVC := Lib.hid hvc3
    clear hvc3
    clear CN g3 hB2
    by_cases hy0 : y = 0
    · subst hy0
      go_wp2_with fail
      go_loopw [10, 11, 12] (fun s10 s11 s12 wr => ∃ j : Nat, j ≤ 3 ∧ s10 = .int .i64 ((lenS (bl p) W j : Nat) : Int) ∧ s11 = .int .i64 ((cN (bl p) j : Nat) : Int) ∧ s12 = .int .u8 ((j : Int) + 65) ∧ wr = W3) (fun _ _ s12 _ => 68 - (intOf s12).toNat)
      case atStart => exact ⟨0, Nat.zero_le _, rfl, rfl, rfl, rfl⟩
      case round =>
        obtain ⟨j, hj, rfl, rfl, rfl, rfl⟩ := hrel
        have hmj := HMO.out j hj
        have hcj := cN_le (bl p) j
        by_cases hj3 : j < 3
        · have hle : (j : Int) + 65 ≤ 67 := by omega
          obtain ⟨A, hA⟩ : ∃ A, lenS (bl p) W j = A := ⟨_, rfl⟩
          obtain ⟨C, hC⟩ : ∃ C, cN (bl p) j = C := ⟨_, rfl⟩
          rw [hA] at hmj ⊢
          rw [hC] at hcj ⊢
          have HA := Lib.hid hA
          have HC := Lib.hid hC
          clear hA hC
          go_wp2_with fail
          go_loopw [13, 14] (fun s13 s14 wq => ∃ i' : Nat, i' ≤ p.size ∧ s13 = .int .i64 ((cntV ((bl p).take i') j : Nat) : Int) ∧ s14 = .int .i64 (i' : Int) ∧ wq = wr) (fun _ s14 _ => p.size - (intOf s14).toNat)
          case atStart => exact ⟨0, Nat.zero_le _, by simp [cntV], rfl, rfl⟩
          case round =>
            obtain ⟨i', hi', rfl, rfl, rfl⟩ := hrel
            by_cases hlt : i' < p.size
            · have hlb : i' < (bl p).length := by omega
              have htk := cntV_takeP (bl p) j i' hlb
              have hcl : cntV ((bl p).take i') j ≤ 8 := Nat.le_trans (cntV_len _ _) (by rw [List.length_take]; omega)
              obtain ⟨hc1, hc2⟩ := HPL.out _ (List.getElem_mem hlb)
              obtain ⟨k, hk⟩ : ∃ k, vn ((bl p)[i']'hlb) = k := ⟨_, rfl⟩
              have hck : (((bl p)[i']'hlb).toNat : Int) = (k : Int) + 65 := by rw [← hk]; unfold vn; omega
              have hk3 : k < 3 := by rw [← hk]; unfold vn; omega
              have hidx : ∀ V, (Instr.index 9 (.string p) (.int .i64 (i' : Int))).run Tryd.prog V = .ok (.int .u8 ((k : Int) + 65)) V := fun V => by
                rw [run_index_string (h := Tryd.underlying9), dif_pos ⟨by omega, by omega⟩, ← hck]; rfl
              rw [hk] at htk
              have hi2 : (i' : Int) < (p.size : Int) := by omega
              by_cases hkj : k = j
              · subst hkj
                rw [if_pos rfl] at htk
                have HTK := Lib.hid htk
                generalize cntV ((bl p).take i') k = cc at hcl HTK ⊢
                clear htk hk hck hc1 hc2
                go_wp2_with fail
                go_roundw
                case rel => exact ⟨i' + 1, by omega, by rw [HTK.out]; go_num, by go_num, by first | rfl | trivial⟩
                case measure => simp [intOf]; omega
              · rw [if_neg hkj] at htk
                have hb : (((k : Int) + 65) == ((j : Int) + 65)) = false := beq_eq_false_iff_ne.2 (by omega)
                have HTK := Lib.hid htk
                generalize cntV ((bl p).take i') j = cc at hcl HTK ⊢
                clear htk hk hck hc1 hc2
                go_wp2_with fail
                go_roundw
                case rel => exact ⟨i' + 1, by omega, by rw [HTK.out, Nat.add_zero], by go_num, by first | rfl | trivial⟩
                case measure => simp [intOf]; omega
            · have hi2 : ¬ (i' : Int) < (p.size : Int) := by omega
              have htk : (bl p).take i' = bl p := List.take_of_length_le (by omega)
              rw [htk]
              have hcl : cntV (bl p) j ≤ 8 := Nat.le_trans (cntV_len _ _) (by omega)
              by_cases hpos : 0 < cntV (bl p) j
              · obtain ⟨hq1, hq2⟩ := HVT.out j hj3 hpos
                have hq1' : cN (bl p) j < (valsB (vsOf (bl p)) W).length := hq1
                have hcv := HVC.out (cN (bl p) j) hq1'
                have hq3 : (valsB (vsOf (bl p)) W)[cN (bl p) j]'hq1' = bt (W j) := hq2
                rw [hq3, HC.out] at hcv
                rw [HC.out] at hq1'
                have hls2 : lenS (bl p) W (j + 1) = A + cntV (bl p) j * (W j).length := by rw [lenS, HA.out]
                have hmj2 := HMO.out (j + 1) (by omega)
                have hcn2 : cN (bl p) (j + 1) = C + 1 := by rw [cN_new hpos, HC.out]
                have hbs : (bt (W j)).size = (W j).length := bt_size _
                have hcpos : (0 : Int) < ((cntV (bl p) j : Nat) : Int) := by omega
                have hls3 := HLS.out
                have hprod : ((cntV (bl p) j * (W j).length : Nat) : Int) = ((cntV (bl p) j : Nat) : Int) * (((W j).length : Nat) : Int) := Int.natCast_mul _ _
                rw [hls2] at hmj2
                have hwl : (W j).length ≤ 60 := by
                  have h1 : 1 * (W j).length ≤ cntV (bl p) j * (W j).length := Nat.mul_le_mul_right _ hpos
                  omega
                have HLS2 := Lib.hid hls2
                have HCN2 := Lib.hid hcn2
                generalize cntV (bl p) j = cc at *
                generalize hwj : bt (W j) = t at *
                generalize (W j).length = n at *
                obtain ⟨m, hm⟩ : ∃ m, cc * n = m := ⟨_, rfl⟩
                rw [hm] at hprod hmj2 HLS2
                have hm60 : m ≤ 60 := by omega
                have hmulN : ((cc : Nat) : Int) * ((n : Nat) : Int) = (m : Int) := hprod.symm
                have hwA : wrap64 ((A : Int) + wrap64 (m : Int)) = ((A + m : Nat) : Int) := by rw [wrap64_inB (y := (m : Int)) (by omega) (by omega), wrap64_inB (by omega) (by omega)]; omega
                have HWA := Lib.hid hwA
                clear hwA
                clear hls2 hcn2 hq2 hq3 hwj htk hq1 hprod hm
                have hCn : C < cp := by omega
                go_wp2_with fail
                go_roundw
                case rel => exact ⟨j + 1, by omega, by rw [HLS2.out, Int.natCast_add], by rw [HCN2.out]; go_num, by go_num, by first | rfl | trivial⟩
                case measure => simp [intOf]; omega
              · have hz : cntV (bl p) j = 0 := by omega
                have hcn2 : cN (bl p) (j + 1) = C := by rw [cN_old hz, HC.out]
                have hls2 : lenS (bl p) W (j + 1) = A := by rw [lenS, HA.out, hz, Nat.zero_mul, Nat.add_zero]
                have HLS2 := Lib.hid hls2
                have HCN2 := Lib.hid hcn2
                rw [hz]
                clear hls2 hcn2 htk
                go_wp2_with fail
                go_roundw
                case rel => exact ⟨j + 1, by omega, by rw [HLS2.out], by rw [HCN2.out], by go_num, by first | rfl | trivial⟩
                case measure => simp [intOf]; omega
        · obtain rfl : j = 3 := by omega
          have hle : ¬ ((3 : Nat) : Int) + 65 ≤ 67 := by omega
          rw [HLS.out]
          have hsl := HSL.out i (i + (subV W (bl p)).length) (by omega) hs1
          have hsum : (i : Int) + (((subV W (bl p)).length : Nat) : Int) = ((i + (subV W (bl p)).length : Nat) : Int) := by omega
          have hz : (bt (((bl x).drop i).take (i + (subV W (bl p)).length - i))).size ≤ 60 := by rw [bt_size, List.length_take, List.length_drop]; omega
          rw [← hsum] at hsl
          generalize bt (((bl x).drop i).take (i + (subV W (bl p)).length - i)) = r at hsl hz
          generalize (subV W (bl p)).length = n at *
          have hb2 : (i : Int) + (n : Int) ≤ 60 := by omega
          clear hsum
          go_wp2_with fail
          go_ret2
          exact ⟨r, p, rfl, by omega, hp, hB3⟩
    · have hcf : (y == 0) = false := beq_eq_false_iff_ne.2 hy0
      go_wp2_with fail
      go_ret2
      exact ⟨x, p, rfl, hx, hp, hB3⟩

end Go.Proofs.YtfipbnognjepkaaDoor

/-! ### Like -/
namespace Go.Proofs.YtfipbnognjepkaaDoor
set_option linter.unusedVariables false
set_option linter.unusedSimpArgs false
open Go.RowKit

set_option maxRecDepth 100000 in
theorem big_no (a : Option Addr) (len cap : Nat) (w : World) (h : len ≤ 4096) :
    Calls Tryd.prog 18 #[.slice a len cap] w fun e w' => e = .returned (.bool false) ∧ Below w.heap.size w w' := by
  go_enter Tryd.func18, Tryd.ntmps18
  go_wp2
  go_ret
  exact ⟨ret_bool (by simp; omega), Below.refl _ _⟩
set_option maxRecDepth 100000 in
theorem big_yes (a : Option Addr) (len cap : Nat) (w : World) (h : 4096 < len) :
    Calls Tryd.prog 18 #[.slice a len cap] w fun e w' => e = .returned (.bool true) ∧ Below w.heap.size w w' := by
  go_enter Tryd.func18, Tryd.ntmps18
  go_wp2
  go_ret
  exact ⟨ret_bool (by simp; omega), Below.refl _ _⟩

set_option maxRecDepth 100000 in
theorem likeInts_yes (B1 B2 : Nat) (v1 v2 : Value) (L : List Int) (w : World) (h1 : OwnI w B1 v1 L) (h2 : OwnI w B2 v2 L) :
    Calls Tryd.prog 44 #[v1, v2] w fun e w' => e = .returned (.bool true) ∧ Below w.heap.size w w' := by
  by_cases h0 : L = []
  · subst h0
    obtain ⟨a1, c1, rfl⟩ := h1.empty
    obtain ⟨a2, c2, rfl⟩ := h2.empty
    clear h1 h2
    go_enter Tryd.func44, Tryd.ntmps44
    go_wp2
    refine wp_loop_rounds 1 ?_
    rw [rounds_succ]
    go_wp2
    go_ret
    exact ⟨rfl, Below.refl _ _⟩
  · have hn : 0 < L.length := List.length_pos_iff.2 h0
    obtain ⟨g1, c1, rfl, _, hg1, hc1, hm, cell1, _⟩ := h1.row hn
    obtain ⟨g2, c2, rfl, _, hg2, hc2, _, cell2, _⟩ := h2.row hn
    unfold maxLen at hm
    have C1 := Lib.hid cell1
    have C2 := Lib.hid cell2
    clear h1 h2 cell1 cell2 h0
    go_enter Tryd.func44, Tryd.ntmps44
    go_wp2
    go_loopw [5] (fun i wr => ∃ k : Nat, k ≤ L.length ∧ i = .int .i64 k ∧ Below w.heap.size w wr) (fun i _ => L.length - (intOf i).toNat)
    case atStart => exact ⟨0, Nat.zero_le _, rfl, Below.refl _ _⟩
    case round =>
      obtain ⟨k, hk, rfl, hB⟩ := hrel
      by_cases hp : k < L.length
      · have k1 : wr.cell? ⟨g1, k, none⟩ = some (.int .i64 (L[k]'hp)) := by rw [(bcell hB).1 g1 k hg1]; exact C1.out k hp
        have k2 : wr.cell? ⟨g2, k, none⟩ = some (.int .i64 (L[k]'hp)) := by rw [(bcell hB).1 g2 k hg2]; exact C2.out k hp
        have hpc1 : k < c1 := by omega
        have hpc2 : k < c2 := by omega
        generalize L[k]'hp = z at k1 k2
        go_wp2
        go_quiet (fail)
        go_wp2
        go_roundw
        case rel => exact ⟨k + 1, by omega, by go_num, hB.drewN _⟩
        case measure => simp [intOf]; omega
      · go_wp2
        go_ret
        exact ⟨rfl, hB⟩

set_option maxRecDepth 100000 in
theorem words5_yes (B1 B2 : Nat) (v1 v2 : Value) (L : List ByteArray) (w : World) (h1 : OwnS w B1 v1 L) (h2 : OwnS w B2 v2 L) :
    Calls Tryd.prog 43 #[v1, v2] w fun e w' => e = .returned (.bool true) ∧ Below w.heap.size w w' := by
  by_cases h0 : L = []
  · subst h0
    obtain ⟨a1, c1, rfl⟩ := h1.empty
    obtain ⟨a2, c2, rfl⟩ := h2.empty
    clear h1 h2
    go_enter Tryd.func43, Tryd.ntmps43
    go_wp2
    refine wp_loop_rounds 1 ?_
    rw [rounds_succ]
    go_wp2
    go_ret
    exact ⟨rfl, Below.refl _ _⟩
  · have hn : 0 < L.length := List.length_pos_iff.2 h0
    obtain ⟨g1, c1, rfl, _, hg1, hc1, hm, cell1, _⟩ := h1.row hn
    obtain ⟨g2, c2, rfl, _, hg2, hc2, _, cell2, _⟩ := h2.row hn
    unfold maxLen at hm
    have C1 := Lib.hid cell1
    have C2 := Lib.hid cell2
    clear h1 h2 cell1 cell2 h0
    go_enter Tryd.func43, Tryd.ntmps43
    go_wp2
    go_loopw [5] (fun i wr => ∃ k : Nat, k ≤ L.length ∧ i = .int .i64 k ∧ Below w.heap.size w wr) (fun i _ => L.length - (intOf i).toNat)
    case atStart => exact ⟨0, Nat.zero_le _, rfl, Below.refl _ _⟩
    case round =>
      obtain ⟨k, hk, rfl, hB⟩ := hrel
      by_cases hp : k < L.length
      · have k1 : wr.cell? ⟨g1, k, none⟩ = some (.string (L[k]'hp)) := by rw [(bcell hB).1 g1 k hg1]; exact C1.out k hp
        have k2 : wr.cell? ⟨g2, k, none⟩ = some (.string (L[k]'hp)) := by rw [(bcell hB).1 g2 k hg2]; exact C2.out k hp
        have hpc1 : k < c1 := by omega
        have hpc2 : k < c2 := by omega
        generalize L[k]'hp = z at k1 k2
        go_wp2
        go_quiet (fail)
        go_wp2
        go_roundw
        case rel => exact ⟨k + 1, by omega, by go_num, hB.drewN _⟩
        case measure => simp [intOf]; omega
      · go_wp2
        go_ret
        exact ⟨rfl, hB⟩

end Go.Proofs.YtfipbnognjepkaaDoor

/-! ### Like9 -/
namespace Go.Proofs.YtfipbnognjepkaaDoor
set_option linter.unusedVariables false
set_option linter.unusedSimpArgs false
open Go.RowKit

set_option maxRecDepth 100000 in
theorem words9_yes (B1 B2 : Nat) (v1 v2 : Value) (L : List ByteArray) (w : World) (h1 : OwnS w B1 v1 L) (h2 : OwnS w B2 v2 L) :
    Calls Tryd.prog 20 #[v1, v2] w fun e w' => e = .returned (.bool true) ∧ Below w.heap.size w w' := by
  by_cases h0 : L = []
  · subst h0
    obtain ⟨a1, c1, rfl⟩ := h1.empty
    obtain ⟨a2, c2, rfl⟩ := h2.empty
    clear h1 h2
    go_enter Tryd.func20, Tryd.ntmps20
    go_wp2
    refine wp_loop_rounds 1 ?_
    rw [rounds_succ]
    go_wp2
    go_ret
    exact ⟨rfl, Below.refl _ _⟩
  · have hn : 0 < L.length := List.length_pos_iff.2 h0
    obtain ⟨g1, c1, rfl, _, hg1, hc1, hm, cell1, _⟩ := h1.row hn
    obtain ⟨g2, c2, rfl, _, hg2, hc2, _, cell2, _⟩ := h2.row hn
    unfold maxLen at hm
    have C1 := Lib.hid cell1
    have C2 := Lib.hid cell2
    clear h1 h2 cell1 cell2 h0
    go_enter Tryd.func20, Tryd.ntmps20
    go_wp2
    go_loopw [5] (fun i wr => ∃ k : Nat, k ≤ L.length ∧ i = .int .i64 k ∧ Below w.heap.size w wr) (fun i _ => L.length - (intOf i).toNat)
    case atStart => exact ⟨0, Nat.zero_le _, rfl, Below.refl _ _⟩
    case round =>
      obtain ⟨k, hk, rfl, hB⟩ := hrel
      by_cases hp : k < L.length
      · have k1 : wr.cell? ⟨g1, k, none⟩ = some (.string (L[k]'hp)) := by rw [(bcell hB).1 g1 k hg1]; exact C1.out k hp
        have k2 : wr.cell? ⟨g2, k, none⟩ = some (.string (L[k]'hp)) := by rw [(bcell hB).1 g2 k hg2]; exact C2.out k hp
        have hpc1 : k < c1 := by omega
        have hpc2 : k < c2 := by omega
        generalize L[k]'hp = z at k1 k2
        go_wp2
        go_quiet (fail)
        go_wp2
        go_roundw
        case rel => exact ⟨k + 1, by omega, by go_num, hB.drewN _⟩
        case measure => simp [intOf]; omega
      · go_wp2
        go_ret
        exact ⟨rfl, hB⟩

end Go.Proofs.YtfipbnognjepkaaDoor
