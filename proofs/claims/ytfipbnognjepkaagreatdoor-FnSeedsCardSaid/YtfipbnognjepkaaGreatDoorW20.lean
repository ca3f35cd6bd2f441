/- The model's draws of words with seeds; lists held against each other. -/
import Derived.WalkKit
import Derived.Test.YtfipbnognjepkaaGreatDoorInts
import Derived.RegionTactic
import Derived.Deep.RegionWith
import Derived.Deep.LoopGhost
import Derived.Outline
import Derived.Test.YtfipbnognjepkaaGreatDoorLetter
import Derived.Test.YtfipbnognjepkaaGreatDoorOwn
import Derived.Test.YtfipbnognjepkaaGreatDoorPers
import Derived.BigRegion
import Derived.RangeFuncBox
import Derived.Deep.QuietTactic
import Derived.BigQuiet
import Derived.Test.YtfipbnognjepkaaGreatDoorComPlain
import Derived.Test.YtfipbnognjepkaaGreatDoorStrs
import Derived.Test.YtfipbnognjepkaaGreatDoorWordOfS
import Derived.Test.YtfipbnognjepkaaGreatDoorNumbers
import Derived.WalkSpells
import Derived.Deep.RegionHeld3
import Derived.Test.YtfipbnognjepkaaGreatDoorBorders

/-! ### IsRow -/
namespace Go.Proofs.YtfipbnognjepkaaGreatDoor
set_option linter.unusedVariables false
open Go.RowKit
/-- It is nil; or it leads to a row of 'cap' cells, the numbers 'zs' (the first 'len' are its elements), each fitting its kind. -/
def IsRow (k : IntKind) (w : World) (a : Option Addr) (len cap : Nat) (zs : List Int) : Prop :=
  (a = none ∧ len = 0 ∧ cap = 0 ∧ zs = []) ∨
  ∃ x, a = some x ∧ len ≤ cap ∧ cap ≤ maxLen ∧ zs.length = cap ∧ (∀ i, i < zs.length → w.cell? (x.add i) = some (.int k (zs.getD i 0))) ∧ ∀ n ∈ zs, (Lit.int k n).wf = true
theorem IsRow.below {k : IntKind} {w w' : World} {a : Option Addr} {len cap : Nat} {zs : List Int} (h : IsRow k w a len cap zs) (b : Below w.heap.size w w') : IsRow k w' a len cap zs := by
  rcases h with h | ⟨x, h1, h2, h3, h4, h5, h6⟩
  · exact .inl h
  · exact .inr ⟨x, h1, h2, h3, h4, fun i hi => by rw [b.cell (World.block_lt_of_cell? _ _ (h5 i hi))]; exact h5 i hi, h6⟩
theorem IsRow.len_le {k : IntKind} {w : World} {a : Option Addr} {len cap : Nat} {zs : List Int} (h : IsRow k w a len cap zs) : len ≤ 9223372036854775807 := by
  rcases h with ⟨_, h, _⟩ | ⟨x, h1, h2, h3, _⟩
  · omega
  · unfold maxLen at h3; omega
end Go.Proofs.YtfipbnognjepkaaGreatDoor

/-! ### Src -/
namespace Go.Proofs.YtfipbnognjepkaaGreatDoor
set_option linter.unusedVariables false
set_option linter.unusedSimpArgs false
open Go.RowKit

/-- A source of draws in a block of the call's own: a row of bytes that came in, a place in it, a number. -/
def Src (w0 W : World) (b : Nat) : Prop := ∃ (a : Option Addr) (len cap : Nat) (zs : List Int) (p : Nat) (h : Int),
  W.heap[b]? = some (.cells #[.slice a len cap, .int .i64 (p : Int), .int .u64 h] 125) ∧ IsRow .u8 w0 a len cap zs ∧ p ≤ len ∧ len ≤ 1048576 ∧ 0 ≤ h ∧ h < 18446744073709551616 ∧ w0.heap.size ≤ b

theorem wrap_u64 (y : Int) : IntKind.u64.wrap y = y % 18446744073709551616 := by
  unfold IntKind.wrap
  simp [show IntKind.u64.signed = false from rfl, show IntKind.u64.bits = 64 from rfl]
theorem wrap_in (y : Int) : 0 ≤ IntKind.u64.wrap y ∧ IntKind.u64.wrap y < 18446744073709551616 := by
  rw [wrap_u64]
  omega
theorem and_bound (y : Int) : 0 ≤ wrap64 (bits .and .u64 y 16777215) ∧ wrap64 (bits .and .u64 y 16777215) ≤ 16777215 := by
  have h : bits .and .u64 y 16777215 = IntKind.u64.wrap ((BitVec.ofInt 64 y &&& BitVec.ofInt 64 16777215).toNat : Int) := rfl
  have h2 : (BitVec.ofInt 64 y &&& BitVec.ofInt 64 16777215).toNat ≤ 16777215 := by
    rw [BitVec.toNat_and]
    exact Nat.le_trans Nat.and_le_right (by decide)
  rw [h, wrap_u64]
  unfold wrap64
  omega
/-- The three cells of a source. -/
theorem src_cells {W : World} {b : Nat} {x y z : Value} {t : TypeId} (hb : W.heap[b]? = some (.cells #[x, y, z] t)) :
    W.cell? ⟨b, 0, none⟩ = some x ∧ W.cell? ⟨b, 1, none⟩ = some y ∧ W.cell? ⟨b, 2, none⟩ = some z ∧ W.frozen? ⟨b, 0, none⟩ = false ∧ W.frozen? ⟨b, 1, none⟩ = false ∧ W.frozen? ⟨b, 2, none⟩ = false := by
  simp [World.cell?, World.frozen?, hb]
theorem src_set2 {W : World} {b : Nat} {x y z : Value} {t : TypeId} (hb : W.heap[b]? = some (.cells #[x, y, z] t)) (v : Value) : (W.setCell ⟨b, 2, none⟩ v).heap[b]? = some (.cells #[x, y, v] t) := by
  obtain ⟨hlt, hk⟩ := Array.getElem?_eq_some_iff.1 hb
  show (W.heap.modify b _)[b]? = _
  rw [Array.getElem?_eq_getElem (by rw [Array.size_modify]; exact hlt), Array.getElem_modify_self, hk]
  rfl
theorem src_set1 {W : World} {b : Nat} {x y z : Value} {t : TypeId} (hb : W.heap[b]? = some (.cells #[x, y, z] t)) (v : Value) : (W.setCell ⟨b, 1, none⟩ v).heap[b]? = some (.cells #[x, v, z] t) := by
  obtain ⟨hlt, hk⟩ := Array.getElem?_eq_some_iff.1 hb
  show (W.heap.modify b _)[b]? = _
  rw [Array.getElem?_eq_getElem (by rw [Array.size_modify]; exact hlt), Array.getElem_modify_self, hk]
  rfl
theorem grown_set0 {w w' : World} {g : Nat} (h : w.grownBy w' (some g)) (j : Nat) (u : Value) : w.grownBy (w'.setCell ⟨g, j, none⟩ u) (some g) := grown_set h j u
theorem grown_drewN {w w' : World} {r : Option Nat} (h : w.grownBy w' r) (n : Nat) : w.grownBy (w'.drewN n) r := ⟨h.os, h.tape, h.output, h.size, h.block⟩

set_option maxRecDepth 100000 in
set_option maxHeartbeats 1000000 in
theorem l01Next_any (w0 W : World) (b : Nat) (n : Int) (hS : Src w0 W b) (hB : Below w0.heap.size w0 W) (hn : n ≤ 4611686018427387904) (hn2 : -4611686018427387905 ≤ n) :
    Calls Tryz.prog 115 #[.pointer (some ⟨b, 0, none⟩), .int .i64 n] W fun e W' => ∃ v : Int, e = .returned (.int .i64 v) ∧ (n < 1 → v = 0) ∧ (1 ≤ n → 0 ≤ v ∧ v < n) ∧ Src w0 W' b ∧ W.grownBy W' (some b) := by
  by_cases h1 : n < 1
  · have HS := Lib.hid hS
    clear hS
    go_enter Tryz.func115, Tryz.ntmps115
    go_wp2
    go_ret
    exact ⟨0, rfl, fun _ => rfl, fun h => by omega, HS.out, grown_refl _ _⟩
  · obtain ⟨a, len, cap, zs, p, h, hb, hR, hp, hl, h0, h64, hwb⟩ := hS
    have c0 : W.cell? ⟨b, 0, none⟩ = some (.slice a len cap) := by simp [World.cell?, hb]
    have c1 : W.cell? ⟨b, 1, none⟩ = some (.int .i64 (p : Int)) := by simp [World.cell?, hb]
    have c2 : W.cell? ⟨b, 2, none⟩ = some (.int .u64 h) := by simp [World.cell?, hb]
    have f1 : W.frozen? ⟨b, 1, none⟩ = false := by simp [World.frozen?, hb]
    have f2 : W.frozen? ⟨b, 2, none⟩ = false := by simp [World.frozen?, hb]
    have hw1 := wrap_in (IntKind.u64.wrap (h * 6364136223846793005) + 1442695040888963407)
    have hbd := and_bound (IntKind.u64.wrap (IntKind.u64.wrap (h * 6364136223846793005) + 1442695040888963407) / 8589934592)
    by_cases hpl : p < len
    · obtain ⟨y, rfl, hz1, hz2, hcell, hwf⟩ : ∃ y, a = some y ∧ p < cap ∧ cap ≤ maxLen ∧ w0.cell? (y.add p) = some (.int .u8 (zs.getD p 0)) ∧ (0 ≤ zs.getD p 0 ∧ zs.getD p 0 ≤ 255) := by
        rcases hR with ⟨_, h2, _⟩ | ⟨y, h2, h3, h4, h5, h6, h7⟩
        · omega
        · refine ⟨y, h2, by omega, h4, h6 p (by omega), ?_⟩
          have hm := h7 (zs.getD p 0) (by rw [List.getD_eq_getElem?_getD, List.getElem?_eq_getElem (by omega)]; exact List.getElem_mem _)
          have : (IntKind.u8.min ≤ zs.getD p 0 ∧ zs.getD p 0 ≤ IntKind.u8.max) := by simpa [Lit.wf] using hm
          exact this
      have HR := Lib.hid hR
      clear hR
      generalize zs.getD p 0 = z at *
      go_enter Tryz.func115, Tryz.ntmps115
      go_wp2
      generalize wrap64 (bits .and .u64 (IntKind.u64.wrap (IntKind.u64.wrap (h * 6364136223846793005) + 1442695040888963407) / 8589934592) 16777215) = x at hbd ⊢
      generalize hh : IntKind.u64.wrap (IntKind.u64.wrap (h * 6364136223846793005) + 1442695040888963407) = h2 at hw1 ⊢
      have hb2 := src_set2 hb (.int .u64 h2)
      have hg2 := grown_set (grown_refl W (some b)) 2 (.int .u64 h2)
      have hB2 := hB.grown hg2 hB.size (fun k e => by cases e; exact hwb)
      have hzc : (W.setCell ⟨b, 2, none⟩ (.int .u64 h2)).cell? (y.add p) = some (.int .u8 z) := by rw [hB2.cell (World.block_lt_of_cell? _ _ hcell)]; exact hcell
      clear c0 c1 c2 f1 f2 hb hcell
      generalize W.setCell ⟨b, 2, none⟩ (.int .u64 h2) = W1 at hb2 hg2 hB2 hzc ⊢
      obtain ⟨c0, c1, c2, f0, f1, f2⟩ := src_cells hb2
      have hpl2 : (p : Int) < (len : Int) := by omega
      go_quiet (fail)
      go_wp2
      go_quiet (fail)
      go_wp2
      go_ret
      exact ⟨(x + z) % n, rfl, fun h => by omega, fun _ => ⟨Int.emod_nonneg _ (by omega), Int.emod_lt_of_pos _ (by omega)⟩, ⟨some y, len, cap, zs, p + 1, h2, by rw [show ((p + 1 : Nat) : Int) = (p : Int) + 1 by omega]; exact src_set1 hb2 _, HR.out, by omega, hl, hw1.1, hw1.2, hwb⟩, grown_set (grown_drewN hg2 _) 1 _⟩
    · go_enter Tryz.func115, Tryz.ntmps115
      go_wp2
      generalize wrap64 (bits .and .u64 (IntKind.u64.wrap (IntKind.u64.wrap (h * 6364136223846793005) + 1442695040888963407) / 8589934592) 16777215) = x at hbd ⊢
      generalize hh : IntKind.u64.wrap (IntKind.u64.wrap (h * 6364136223846793005) + 1442695040888963407) = h2 at hw1 ⊢
      have hb2 := src_set2 hb (.int .u64 h2)
      have hg2 := grown_set (grown_refl W (some b)) 2 (.int .u64 h2)
      clear c0 c1 c2 f1 f2 hb
      generalize W.setCell ⟨b, 2, none⟩ (.int .u64 h2) = W1 at hb2 hg2 ⊢
      obtain ⟨c0, c1, c2, f0, f1, f2⟩ := src_cells hb2
      have hpl2 : ¬ (p : Int) < (len : Int) := by omega
      go_quiet (fail)
      go_wp2
      go_ret
      exact ⟨x % n, rfl, fun h => by omega, ⟨Int.emod_nonneg _ (by omega), Int.emod_lt_of_pos _ (by omega)⟩, ⟨a, len, cap, zs, p, h2, hb2, hR, hp, hl, hw1.1, hw1.2, hwb⟩, grown_drewN hg2 _⟩

end Go.Proofs.YtfipbnognjepkaaGreatDoor

/-! ### Draw -/
namespace Go.Proofs.YtfipbnognjepkaaGreatDoor
set_option linter.unusedVariables false
set_option linter.unusedSimpArgs false
open Go.RowKit

theorem Src.lt {w0 W : World} {b : Nat} (h : Src w0 W b) : b < W.heap.size := by
  obtain ⟨_, _, _, _, _, _, hb, _⟩ := h
  exact (Array.getElem?_eq_some_iff.1 hb).1
theorem Src.ge {w0 W : World} {b : Nat} (h : Src w0 W b) : w0.heap.size ≤ b := by
  obtain ⟨_, _, _, _, _, _, _, _, _, _, _, _, h⟩ := h
  exact h
theorem Src.below {w0 W W' : World} {b : Nat} (h : Src w0 W b) (k : Below W.heap.size W W') : Src w0 W' b := by
  have hl := h.lt
  obtain ⟨a, len, cap, zs, p, q, hb, r⟩ := h
  exact ⟨a, len, cap, zs, p, q, by rw [k.block b hl]; exact hb, r⟩
theorem grown_of_below {W W' : World} (k : Below W.heap.size W W') (r : Option Nat) : W.grownBy W' r := ⟨k.os, k.tape, k.output, k.size, fun j hj _ => k.block j hj⟩
theorem grown_trans {A B C : World} {r : Option Nat} (h : A.grownBy B r) (k : B.grownBy C r) : A.grownBy C r :=
  ⟨k.os.trans h.os, k.tape.trans h.tape, k.output.trans h.output, Nat.le_trans h.size k.size, fun j hj hne => (k.block j (Nat.lt_of_lt_of_le hj h.size) hne).trans (h.block j hj hne)⟩
theorem below_src {w0 W W' : World} {b : Nat} (hB : Below w0.heap.size w0 W) (hb : w0.heap.size ≤ b) (g : W.grownBy W' (some b)) : Below w0.heap.size w0 W' :=
  hB.grown g hB.size (fun k e => by cases e; exact hb)

theorem grown_cell {W W1 : World} {r : Option Nat} (g : W.grownBy W1 r) {p : Addr} (hp : p.block < W.heap.size) (hne : some p.block ≠ r) : W1.cell? p = W.cell? p := by
  unfold World.cell?
  rw [g.block _ hp hne]
/-- What a drawing function that hands back a text comes to: some text of at most N bytes. -/
def DrawnT (N : Nat) (w0 W : World) (b : Nat) (e : Ending) (W' : World) : Prop := ∃ x : ByteArray, e = .returned (.string x) ∧ x.size ≤ N ∧ Src w0 W' b ∧ W.grownBy W' (some b)
def DrawnI (lo hi : Int) (w0 W : World) (b : Nat) (e : Ending) (W' : World) : Prop := ∃ v : Int, e = .returned (.int .i64 v) ∧ lo ≤ v ∧ v ≤ hi ∧ Src w0 W' b ∧ W.grownBy W' (some b)

/-- The next number. -/
theorem l01Next_i (w0 W : World) (b : Nat) (n : Int) (hS : Src w0 W b) (hB : Below w0.heap.size w0 W) (h1 : 1 ≤ n) (hn : n ≤ 4611686018427387904) :
    Calls Tryz.prog 115 #[.pointer (some ⟨b, 0, none⟩), .int .i64 n] W (DrawnI 0 (n - 1) w0 W b) := by
  refine (l01Next_any w0 W b n hS hB hn (by omega)).mono ?_
  rintro e W' ⟨v, rfl, _, h2, h3, h4⟩
  have h5 := h2 h1
  exact ⟨v, rfl, h5.1, by omega, h3, h4⟩
theorem l01Next_0 (w0 W : World) (b : Nat) (n : Int) (hS : Src w0 W b) (hB : Below w0.heap.size w0 W) (h1 : 0 ≤ n) (hn : n ≤ 4611686018427387904) :
    Calls Tryz.prog 115 #[.pointer (some ⟨b, 0, none⟩), .int .i64 n] W (DrawnI 0 n w0 W b) := by
  refine (l01Next_any w0 W b n hS hB hn (by omega)).mono ?_
  rintro e W' ⟨v, rfl, h1', h2, h3, h4⟩
  refine ⟨v, rfl, ?_, ?_, h3, h4⟩
  · by_cases h : n < 1
    · rw [h1' h]; exact Int.le_refl _
    · exact (h2 (by omega)).1
  · by_cases h : n < 1
    · rw [h1' h]; omega
    · have := (h2 (by omega)).2; omega

theorem cells_new_ints (W : World) (xs : List Int) (t : TypeId) : ∀ j (h : j < xs.length), (W.alloc (.cells (xs.map (Value.int .i64)).toArray t)).cell? ⟨W.heap.size, j, none⟩ = some (.int .i64 (xs[j]'h)) := by
  intro j h
  rw [World.cell?_alloc_new]
  simp [h]

set_option maxRecDepth 100000 in
theorem l01Pick_any (w0 W : World) (b g : Nat) (xs : List Int) (hS : Src w0 W b) (hB : Below w0.heap.size w0 W) (hg : g < W.heap.size) (hgb : g ≠ b) (h0 : 0 < xs.length) (hn : xs.length ≤ 60)
    (hc : ∀ j (h : j < xs.length), W.cell? ⟨g, j, none⟩ = some (.int .i64 (xs[j]'h))) :
    Calls Tryz.prog 51 #[.pointer (some ⟨b, 0, none⟩), .slice (some ⟨g, 0, none⟩) xs.length xs.length] W fun e W' => ∃ v : Int, e = .returned (.int .i64 v) ∧ v ∈ xs ∧ Src w0 W' b ∧ W.grownBy W' (some b) := by
  have CN := Lib.hid (l01Next_i w0 W b xs.length hS hB (by omega) (by omega))
  have HC := Lib.hid hc
  clear hc hS
  go_enter Tryz.func51, Tryz.ntmps51
  go_wp2_with fail
  refine CN.out.mono ?_
  rintro e W1 ⟨v, rfl, v0, v1, s1, g1⟩
  obtain ⟨m, rfl⟩ := Int.eq_ofNat_of_zero_le v0
  have hm : m < xs.length := by omega
  have k1 : W1.cell? ⟨g, m, none⟩ = some (.int .i64 (xs[m]'hm)) := by
    rw [grown_cell g1 (p := ⟨g, m, none⟩) hg (fun e => hgb (Option.some.inj e))]; exact HC.out m hm
  have HM := Lib.hid (List.getElem_mem hm)
  generalize xs[m]'hm = z at k1 HM
  go_wp2
  go_ret
  exact ⟨z, rfl, HM.out, s1, g1⟩

set_option maxRecDepth 100000 in
set_option maxHeartbeats 1000000 in
theorem l01DrawOf_any (w0 W : World) (b : Nat) (n k : Int) (hS : Src w0 W b) (hB : Below w0.heap.size w0 W) (hn : n ≤ 100) (hn0 : 0 ≤ n) (hk1 : 1 ≤ k) (hk5 : k ≤ 5) :
    Calls Tryz.prog 114 #[.pointer (some ⟨b, 0, none⟩), .int .i64 n, .int .i64 k] W fun e W' => ∃ x : ByteArray, e = .returned (.string x) ∧ (x.size : Int) = n ∧ Src w0 W' b ∧ W.grownBy W' (some b) := by
  have HB0 := hS.ge
  obtain ⟨N, rfl⟩ := Int.eq_ofNat_of_zero_le hn0
  go_enter Tryz.func114, Tryz.ntmps114
  go_wp2
  go_loopg [7, 8] N (fun g s7 s8 wr => ∃ (j : Nat) (x : ByteArray), j + g = N ∧ x.size = j ∧ s7 = .string x ∧ s8 = .int .i64 (j : Int) ∧ Src w0 wr b ∧ W.grownBy wr (some b))
  case atStart => exact ⟨0, ⟨#[]⟩, by omega, rfl, rfl, rfl, hS, grown_refl _ _⟩
  case round =>
    clear hS
    obtain ⟨j, x, hj, hx, rfl, rfl, hS, hG⟩ := hrel
    by_cases hp : j < N
    · obtain ⟨g, rfl⟩ : ∃ g, gk = g + 1 := ⟨gk - 1, by omega⟩
      have hB1 := below_src hB HB0 hG
      have CN := Lib.hid (l01Next_i w0 wr b k hS hB1 hk1 (by omega))
      clear hS
      go_wp2_with fail
      refine CN.out.mono ?_
      rintro e W1 ⟨v, rfl, v0, v1, s1, g1⟩
      go_wp2_with fail
      refine (l01Letter_any v _ v0 (by omega)).mono ?_
      rintro e W2 ⟨rfl, b2⟩
      have e1 : (⟨#[letB v]⟩ : ByteArray).size = 1 := rfl
      generalize (⟨#[letB v]⟩ : ByteArray) = t at *
      have hsum : ∀ W, (Op.stringOp .add x t).run Tryz.prog W = .ok (.string (x ++ t)) W := fun W => run_string_add_sum W x t (by omega)
      have s2 := s1.below b2
      have g2 := grown_trans (grown_trans hG g1) (grown_of_below b2 (some b))
      have hz : (x ++ t).size = j + 1 := by rw [ByteArray.size_append]; omega
      go_wp2_with fail
      go_roundg g
      case measure => omega
      case rel => exact ⟨j + 1, x ++ t, by omega, hz, rfl, by go_num, s2, g2⟩
    · have hN : Hid (j = N) := Lib.hid (by omega)
      go_wp2
      go_ret
      exact ⟨x, rfl, by have := hN.out; omega, hS, hG⟩

set_option maxRecDepth 100000 in
set_option maxHeartbeats 1000000 in
theorem l01Small_any (w0 W : World) (b : Nat) (hS : Src w0 W b) (hB : Below w0.heap.size w0 W) :
    Calls Tryz.prog 175 #[.pointer (some ⟨b, 0, none⟩)] W (DrawnT 10 w0 W b) := by
  have HB0 := hS.ge
  have CN := Lib.hid (l01Next_i w0 W b 11 hS hB (by omega) (by omega))
  clear hS
  go_enter Tryz.func175, Tryz.ntmps175
  go_wp2_with fail
  refine CN.out.mono ?_
  rintro e W1 ⟨v, rfl, v0, v1, s1, g1⟩
  have hB1 := below_src hB HB0 g1
  have hbl := s1.lt
  go_wp2_with fail
  refine (l01Pick_any w0 _ b _ [1, 2, 2, 2, 3, 5] (s1.below (Below.new _ _)) (hB1.alloc hB1.size _) (by simp) (by omega) (by decide) (by decide) (cells_new_ints W1 [1, 2, 2, 2, 3, 5] _)).mono ?_
  rintro e W2 ⟨k, rfl, hk, s2, g2⟩
  have hB2 := below_src (hB1.alloc hB1.size _) HB0 g2
  have hk2 : 1 ≤ k ∧ k ≤ 5 := by simp at hk; omega
  have g3 := grown_trans g1 (grown_trans (grown_of_below (Below.new W1 _) (some b)) g2)
  clear hk
  go_wp2_with fail
  refine (l01DrawOf_any w0 _ b v k s2 hB2 (by omega) v0 hk2.1 hk2.2).mono ?_
  rintro e W3 ⟨x, rfl, hx, s3, g4⟩
  go_wp2_with fail
  go_ret
  exact ⟨x, rfl, by omega, s3, grown_trans g3 g4⟩

end Go.Proofs.YtfipbnognjepkaaGreatDoor

/-! ### Draw2 -/
namespace Go.Proofs.YtfipbnognjepkaaGreatDoor
set_option linter.unusedVariables false
set_option linter.unusedSimpArgs false
open Go.RowKit

set_option maxRecDepth 100000 in
set_option maxHeartbeats 2000000 in
theorem l01From_any (a : Option Addr) (len cap : Nat) (zs : List Int) (w : World) (h : IsRow .u8 w a len cap zs) (hl : len ≤ 1048576) :
    Calls Tryz.prog 48 #[.slice a len cap] w fun e w' => e = .returned (.pointer (some ⟨w.heap.size, 0, none⟩)) ∧ Src w w' w.heap.size ∧ Below w.heap.size w w' := by
  have HR := Lib.hid h
  have hby : ∀ j, j < len → ∃ y z, a = some y ∧ j < cap ∧ w.cell? (y.add j) = some (.int .u8 z) ∧ 0 ≤ z ∧ z ≤ 255 := by
    intro j hj
    rcases h with ⟨_, h2, _⟩ | ⟨y, h2, h3, h4, h5, h6, h7⟩
    · omega
    · have hm := h7 (zs.getD j 0) (by rw [List.getD_eq_getElem?_getD, List.getElem?_eq_getElem (by omega)]; exact List.getElem_mem _)
      have : (IntKind.u8.min ≤ zs.getD j 0 ∧ zs.getD j 0 ≤ IntKind.u8.max) := by simpa [Lit.wf] using hm
      exact ⟨y, _, h2, by omega, h6 j (by omega), this.1, this.2⟩
  have HY := Lib.hid hby
  clear h hby
  go_enter Tryz.func48, Tryz.ntmps48
  go_wp2
  go_loopg [4] len (fun g s4 wr => ∃ (j : Nat) (q : Int), j + g = len ∧ s4 = .int .i64 (j : Int) ∧ wr.heap[w.heap.size]? = some (.cells #[.slice a len cap, .int .i64 0, .int .u64 q] 125) ∧ 0 ≤ q ∧ q < 18446744073709551616 ∧ Below w.heap.size w wr)
  case atStart =>
    refine ⟨0, _, by omega, rfl, World.alloc_heap_new w _, ?_, ?_, Below.new _ _⟩
    · omega
    · omega
  case round =>
    obtain ⟨j, q, hj, rfl, hb, q0, q1, hB⟩ := hrel
    by_cases hp : j < len
    · by_cases hp2 : (j : Int) < 4096
      · obtain ⟨g, rfl⟩ : ∃ g, gk = g + 1 := ⟨gk - 1, by omega⟩
        obtain ⟨y, z, rfl, hjc, hcell, z0, z1⟩ := HY.out j hp
        have hzc : wr.cell? (y.add j) = some (.int .u8 z) := by rw [hB.cell (World.block_lt_of_cell? _ _ hcell)]; exact hcell
        have hwi := wrap_in (IntKind.u64.wrap (IntKind.u64.wrap (q * 1099511628211) + z) + 211)
        obtain ⟨c0, c1, c2, f0, f1, f2⟩ := src_cells hb
        have hpl : (j : Int) < (len : Int) := by omega
        go_wp2
        go_region
        have hb2 := src_set2 hb (.int .u64 (IntKind.u64.wrap (IntKind.u64.wrap (IntKind.u64.wrap (q * 1099511628211) + z) + 211)))
        have hB2 : Below w.heap.size w (wr.setCell ⟨w.heap.size, 2, none⟩ (.int .u64 (IntKind.u64.wrap (IntKind.u64.wrap (IntKind.u64.wrap (q * 1099511628211) + z) + 211)))) := hB.setCell (p := ⟨w.heap.size, 2, none⟩) (Nat.le_refl _) _
        go_wp2
        go_roundg g
        case measure => omega
        case rel => exact ⟨j + 1, _, by omega, by go_num, hb2, hwi.1, hwi.2, hB2.drew⟩
      · go_wp2
        go_ret
        exact ⟨rfl, ⟨a, len, cap, zs, 0, q, hb, HR.out, by omega, hl, q0, q1, Nat.le_refl _⟩, hB⟩
    · go_wp2
      go_ret
      exact ⟨rfl, ⟨a, len, cap, zs, 0, q, hb, HR.out, by omega, hl, q0, q1, Nat.le_refl _⟩, hB⟩

set_option maxRecDepth 100000 in
set_option maxHeartbeats 1000000 in
theorem l01Near_any (w0 W : World) (b : Nat) (most : Int) (hS : Src w0 W b) (hB : Below w0.heap.size w0 W) (h0 : 0 ≤ most) (h1 : most ≤ 1000000000) :
    Calls Tryz.prog 52 #[.pointer (some ⟨b, 0, none⟩), .int .i64 most] W (DrawnI (-4611686018427387904) 1099511627776 w0 W b) := by
  have HB0 := hS.ge
  have CN := Lib.hid (l01Next_i w0 W b 14 hS hB (by omega) (by omega))
  clear hS
  go_enter Tryz.func52, Tryz.ntmps52
  go_wp2_with fail
  refine CN.out.mono ?_
  rintro e W1 ⟨v, rfl, v0, v1, s1, g1⟩
  have hB1 := below_src hB HB0 g1
  have hbl := s1.lt
  by_cases hv : v = 0
  · go_wp2_with fail
    refine (l01Pick_any w0 _ b _ [-1, most + 1, 1099511627776, -4611686018427387904] (s1.below (Below.new _ _)) (hB1.alloc hB1.size _) (by simp) (by omega) (by simp) (by simp) (cells_new_ints W1 [-1, most + 1, 1099511627776, -4611686018427387904] _)).mono ?_
    rintro e W2 ⟨k, rfl, hk, s2, g2⟩
    have hk2 : -4611686018427387904 ≤ k ∧ k ≤ 1099511627776 := by simp at hk; omega
    go_wp2_with fail
    go_ret
    exact ⟨k, rfl, hk2.1, hk2.2, s2, grown_trans g1 (grown_trans (grown_of_below (Below.new W1 _) (some b)) g2)⟩
  · have CM := Lib.hid (l01Next_i w0 W1 b (most + 1) s1 hB1 (by omega) (by omega))
    go_wp2_with fail
    refine CM.out.mono ?_
    rintro e W2 ⟨k, rfl, k0, k1, s2, g2⟩
    go_wp2_with fail
    go_ret
    exact ⟨k, rfl, by omega, by omega, s2, grown_trans g1 g2⟩

theorem cells_new_strs (W : World) (xs : List ByteArray) (t : TypeId) : ∀ j (h : j < xs.length), (W.alloc (.cells (xs.map Value.string).toArray t)).cell? ⟨W.heap.size, j, none⟩ = some (.string (xs[j]'h)) := by
  intro j h
  rw [World.cell?_alloc_new]
  simp [h]
def signsL : List ByteArray := [⟨#[97]⟩, ⟨#[98]⟩, ⟨#[99]⟩, ⟨#[101]⟩, ⟨#[102]⟩, ⟨#[65]⟩, ⟨#[32]⟩, ⟨#[44]⟩, ⟨#[48]⟩, ⟨#[10]⟩]
theorem signsL_size : ∀ j (h : j < signsL.length), (signsL[j]'h).size = 1 := by
  intro j h
  match j, h with
  | 0, _ | 1, _ | 2, _ | 3, _ | 4, _ | 5, _ | 6, _ | 7, _ | 8, _ | 9, _ => rfl
  | j + 10, h => simp [signsL] at h; omega

set_option maxRecDepth 100000 in
set_option maxHeartbeats 1000000 in
theorem l01Damage_any (w0 W : World) (b : Nat) (x : ByteArray) (hS : Src w0 W b) (hB : Below w0.heap.size w0 W) (hx : x.size ≤ 1000) :
    Calls Tryz.prog 156 #[.pointer (some ⟨b, 0, none⟩), .string x] W (DrawnT (x.size + 1) w0 W b) := by
  have HB0 := hS.ge
  have hbl0 := hS.lt
  have CN := Lib.hid (l01Next_i w0 _ b 10 (hS.below (Below.new W (.cells (signsL.map Value.string).toArray 9))) (hB.alloc hB.size _) (by omega) (by omega))
  have HC := Lib.hid (cells_new_strs W signsL 9)
  have HB1 := Lib.hid (hB.alloc hB.size (.cells (signsL.map Value.string).toArray 9))
  have HG := Lib.hid (grown_of_below (Below.new W (.cells (signsL.map Value.string).toArray 9)) (some b))
  have hz : (W.alloc (.cells (signsL.map Value.string).toArray 9)).heap.size = W.heap.size + 1 := by simp
  clear hS
  go_enter Tryz.func156, Tryz.ntmps156
  go_wp2_with fail
  refine CN.out.mono ?_
  rintro e W1 ⟨v, rfl, v0, v1, s1, g1⟩
  obtain ⟨m, rfl⟩ := Int.eq_ofNat_of_zero_le v0
  have hm : m < signsL.length := by simp [signsL]; omega
  have k1 : W1.cell? ⟨W.heap.size, m, none⟩ = some (.string (signsL[m]'hm)) := by
    rw [grown_cell g1 (p := ⟨W.heap.size, m, none⟩) (by show W.heap.size < _; omega) (fun e => by have h : W.heap.size = b := Option.some.inj e; omega)]; exact HC.out m hm
  have hcs := signsL_size m hm
  have hB1 := below_src HB1.out HB0 g1
  have g2 := grown_trans HG.out g1
  have hm10 : (m : Int) < 10 := by omega
  generalize signsL[m]'hm = c at k1 hcs
  clear g1 hz
  by_cases h0 : x.size = 0
  · have hx0 : (x.size : Int) = 0 := by omega
    go_wp2_with fail
    go_ret
    exact ⟨c, rfl, by omega, s1, g2⟩
  · have CM := Lib.hid (l01Next_i w0 W1 b x.size s1 hB1 (by omega) (by omega))
    have hx0 : ¬ (x.size : Int) = 0 := by omega
    go_wp2_with fail
    refine CM.out.mono ?_
    rintro e W2 ⟨k, rfl, k0, k1, s2, g3⟩
    obtain ⟨n, rfl⟩ := Int.eq_ofNat_of_zero_le k0
    have hn : n < x.size := by omega
    have hB2 := below_src hB1 HB0 g3
    have g4 := grown_trans g2 g3
    have CK := Lib.hid (l01Next_i w0 W2 b 3 s2 hB2 (by omega) (by omega))
    have hsl1 := fun W => slice_to x (n : Int) n rfl (by omega) W
    have hsl2 := fun W => slice_from x ((n : Int) + 1) (n + 1) (by omega) (by omega) W
    have hsl3 := fun W => slice_from x (n : Int) n rfl (by omega) W
    have z1 : (x.extract 0 n).size = n := by simp; omega
    have z2 : (x.extract (n + 1) x.size).size = x.size - (n + 1) := by simp
    have z3 : (x.extract n x.size).size = x.size - n := by simp
    generalize x.extract 0 n = x1 at *
    generalize x.extract (n + 1) x.size = x2 at *
    generalize x.extract n x.size = x3 at *
    have hsum1 : ∀ W, (Op.stringOp .add x1 c).run Tryz.prog W = .ok (.string (x1 ++ c)) W := fun W => run_string_add_sum W _ _ (by omega)
    have y1 : (x1 ++ c).size = n + 1 := by rw [ByteArray.size_append]; omega
    have hsum2 : ∀ W, (Op.stringOp .add (x1 ++ c) x2).run Tryz.prog W = .ok (.string (x1 ++ c ++ x2)) W := fun W => run_string_add_sum W _ _ (by omega)
    have y2 : (x1 ++ c ++ x2).size = x.size := by rw [ByteArray.size_append]; omega
    have hsum3 : ∀ W, (Op.stringOp .add x1 x2).run Tryz.prog W = .ok (.string (x1 ++ x2)) W := fun W => run_string_add_sum W _ _ (by omega)
    have y3 : (x1 ++ x2).size = x.size - 1 := by rw [ByteArray.size_append]; omega
    have hsum4 : ∀ W, (Op.stringOp .add (x1 ++ c) x3).run Tryz.prog W = .ok (.string (x1 ++ c ++ x3)) W := fun W => run_string_add_sum W _ _ (by omega)
    have y4 : (x1 ++ c ++ x3).size = x.size + 1 := by rw [ByteArray.size_append]; omega
    generalize x1 ++ x2 = o3 at *
    generalize x1 ++ c ++ x2 = o2 at *
    generalize x1 ++ c ++ x3 = o4 at *
    generalize x1 ++ c = o1 at *
    go_wp2_with fail
    refine CK.out.mono ?_
    rintro e W3 ⟨q, rfl, q0, q1, s3, g5⟩
    have g6 := grown_trans g4 g5
    have s4 := fun n => (s3.below ((Below.refl _ W3).drewN n))
    by_cases hq0 : q = 0
    · subst hq0
      go_wp2_with fail
      go_quiet (fail)
      go_wp2
      go_ret
      exact ⟨o2, rfl, by omega, s4 _, grown_drewN g6 _⟩
    · by_cases hq1 : q = 1
      · subst hq1
        go_wp2_with fail
        go_quiet (fail)
        go_wp2
        go_ret
        exact ⟨o3, rfl, by omega, s4 _, grown_drewN g6 _⟩
      · go_wp2_with fail
        go_quiet (fail)
        go_wp2
        go_ret
        exact ⟨o4, rfl, by omega, s4 _, grown_drewN g6 _⟩

set_option maxRecDepth 100000 in
set_option maxHeartbeats 1000000 in
theorem l01Bad_any (w0 W : World) (b : Nat) (x : ByteArray) (hS : Src w0 W b) (hB : Below w0.heap.size w0 W) (hx : x.size ≤ 900) :
    Calls Tryz.prog 116 #[.pointer (some ⟨b, 0, none⟩), .string x] W (DrawnT (x.size + 64) w0 W b) := by
  have HB0 := hS.ge
  have CN := Lib.hid (l01Next_i w0 W b 50 hS hB (by omega) (by omega))
  clear hS
  go_enter Tryz.func116, Tryz.ntmps116
  go_wp2_with fail
  refine CN.out.mono ?_
  rintro e W1 ⟨v, rfl, v0, v1, s1, g1⟩
  have hB1 := below_src hB HB0 g1
  by_cases h0 : v = 0
  · subst h0
    have hsum : ∀ W, (Op.stringOp .add x ⟨#[102]⟩).run Tryz.prog W = .ok (.string (x ++ ⟨#[102]⟩)) W := fun W => run_string_add_sum W _ _ (by show x.size + 1 ≤ _; omega)
    have y1 : (x ++ (⟨#[102]⟩ : ByteArray)).size = x.size + 1 := by rw [ByteArray.size_append]; rfl
    generalize x ++ (⟨#[102]⟩ : ByteArray) = o1 at *
    go_wp2_with fail
    go_ret
    exact ⟨o1, rfl, by omega, s1, g1⟩
  · by_cases h1 : v = 1
    · subst h1
      have CD := Lib.hid (l01Damage_any w0 W1 b x s1 hB1 (by omega))
      go_wp2_with fail
      refine CD.out.mono ?_
      rintro e W2 ⟨y, rfl, hy, s2, g2⟩
      go_wp2_with fail
      go_ret
      exact ⟨y, rfl, by omega, s2, grown_trans g1 g2⟩
    · by_cases h2 : v = 2
      · subst h2
        go_wp2_with fail
        go_loopg [1] 61 (fun g s1 wr => ∃ y : ByteArray, 61 ≤ g + y.size ∧ y.size ≤ x.size + 62 ∧ s1 = .string y ∧ wr = W1)
        case atStart => exact ⟨x, by omega, by omega, rfl, rfl⟩
        case round =>
          obtain ⟨y, hy1, hy2, rfl, rfl⟩ := hrel
          by_cases hp : y.size ≤ 60
          · obtain ⟨g, rfl⟩ : ∃ g, gk = g + 1 := ⟨gk - 1, by omega⟩
            have hsum : ∀ W, (Op.stringOp .add y ⟨#[97, 98]⟩).run Tryz.prog W = .ok (.string (y ++ ⟨#[97, 98]⟩)) W := fun W => run_string_add_sum W _ _ (by show y.size + 2 ≤ _; omega)
            have y1 : (y ++ (⟨#[97, 98]⟩ : ByteArray)).size = y.size + 2 := by rw [ByteArray.size_append]; rfl
            generalize y ++ (⟨#[97, 98]⟩ : ByteArray) = o1 at *
            go_wp2
            go_roundg g
            case measure => omega
            case rel => exact ⟨o1, by omega, by omega, rfl, by first | rfl | trivial⟩
          · go_wp2
            go_ret
            exact ⟨y, rfl, by omega, s1, g1⟩
      · go_wp2_with fail
        go_ret
        exact ⟨x, rfl, by omega, s1, g1⟩

end Go.Proofs.YtfipbnognjepkaaGreatDoor

/-! ### NamedPlain -/
namespace Go.Proofs.YtfipbnognjepkaaGreatDoor
set_option linter.unusedVariables false
set_option linter.unusedSimpArgs false
open Go.RowKit

def bt (l : List UInt8) : ByteArray := ⟨l.toArray⟩
theorem bt_size (l : List UInt8) : (bt l).size = l.length := rfl
theorem bt_app (a b : List UInt8) : bt a ++ bt b = bt (a ++ b) := by
  apply ByteArray.ext
  rw [ByteArray.data_append]
  simp [bt]
theorem bt_take (l : List UInt8) (m : Nat) : (bt l).extract 0 m = bt (l.take m) := by
  apply ByteArray.ext
  rw [ByteArray.data_extract]
  simp [bt]
def imgs : Nat → List (List UInt8)
  | 0 => [[97, 98], [97]]
  | 1 => [[97, 98], [98, 97]]
  | 2 => [[97, 98], [97, 97]]
  | _ => [[97, 98, 99], [97, 99], [98]]
def img (I : List (List UInt8)) (c : UInt8) : List UInt8 := I.getD (c.toNat - 97) []
def implRun (I : List (List UInt8)) (m : Nat) : Nat → List UInt8 → Nat → List UInt8
  | 0, l, _ => l
  | f + 1, l, i => if l.length < m then implRun I m f (l ++ img I (l.getD i 0)) (i + 1) else l
def specRun (I : List (List UInt8)) (m : Nat) : Nat → List UInt8 → List UInt8
  | 0, l => l
  | f + 1, l => if l.length < m then specRun I m f (l.flatMap (img I)) else l
def namedI (d m : Nat) : List UInt8 := implRun (imgs d) m 60 ((imgs d).getD 0 []) 1
def namedS (d m : Nat) : List UInt8 := specRun (imgs d) m 60 [97]
theorem named_eq : ∀ d, d < 4 → ∀ m, m < 61 → (namedI d m).take m = (namedS d m).take m := by decide +kernel
theorem implRun_step {I : List (List UInt8)} {m f i : Nat} {l : List UInt8} (h : l.length < m) : implRun I m (f + 1) l i = implRun I m f (l ++ img I (l.getD i 0)) (i + 1) := by rw [implRun, if_pos h]
theorem implRun_end {I : List (List UInt8)} {m f i : Nat} {l : List UInt8} (h : ¬ l.length < m) : implRun I m f l i = l := by
  cases f with
  | zero => rfl
  | succ f => rw [implRun, if_neg h]
theorem specRun_step {I : List (List UInt8)} {m f : Nat} {l : List UInt8} (h : l.length < m) : specRun I m (f + 1) l = specRun I m f (l.flatMap (img I)) := by rw [specRun, if_pos h]
theorem specRun_end {I : List (List UInt8)} {m f : Nat} {l : List UInt8} (h : ¬ l.length < m) : specRun I m f l = l := by
  cases f with
  | zero => rfl
  | succ f => rw [specRun, if_neg h]
/-- All letters have images. -/
def lets (I : List (List UInt8)) (l : List UInt8) : Prop := ∀ c ∈ l, 97 ≤ c.toNat ∧ c.toNat - 97 < I.length
instance (I : List (List UInt8)) (l : List UInt8) : Decidable (lets I l) := by unfold lets; exact inferInstance
def goodI (I : List (List UInt8)) : Prop := (∀ s ∈ I, 1 ≤ s.length ∧ s.length ≤ 3 ∧ lets I s) ∧ 2 ≤ I.length ∧ I.length ≤ 3 ∧ 2 ≤ (I.getD 0 []).length ∧ (I.getD 0 []).getD 0 0 = 97
instance (I : List (List UInt8)) : Decidable (goodI I) := by unfold goodI; exact inferInstance
theorem imgs_good : ∀ d, d < 4 → goodI (imgs d) := by decide +kernel
theorem img_mem {I : List (List UInt8)} {c : UInt8} (h : c.toNat - 97 < I.length) : img I c ∈ I := by
  unfold img
  rw [List.getD_eq_getElem?_getD, List.getElem?_eq_getElem h]
  exact List.getElem_mem h
theorem lets_app {I : List (List UInt8)} {a b : List UInt8} (ha : lets I a) (hb : lets I b) : lets I (a ++ b) := by
  intro c hc
  rcases List.mem_append.1 hc with h | h
  · exact ha c h
  · exact hb c h
theorem lets_flat {I : List (List UInt8)} (g : goodI I) {l : List UInt8} (h : lets I l) : lets I (l.flatMap (img I)) := by
  intro c hc
  rw [List.mem_flatMap] at hc
  obtain ⟨x, hx, hc⟩ := hc
  exact (g.1 _ (img_mem (h x hx).2)).2.2 c hc
theorem flat_len {I : List (List UInt8)} (g : goodI I) : ∀ {l : List UInt8}, lets I l → l.length ≤ (l.flatMap (img I)).length ∧ (l.flatMap (img I)).length ≤ 3 * l.length
  | [], _ => by simp
  | c :: l, h => by
    have h1 := flat_len g (l := l) (fun x hx => h x (List.mem_cons_of_mem _ hx))
    have h2 := g.1 _ (img_mem (h c (List.mem_cons_self ..)).2)
    rw [List.flatMap_cons, List.length_append, List.length_cons]
    omega
theorem flat_grows {I : List (List UInt8)} (g : goodI I) {l : List UInt8} (h : lets I l) (h0 : l.getD 0 0 = 97) (hl : 0 < l.length) : l.length < (l.flatMap (img I)).length ∧ (l.flatMap (img I)).getD 0 0 = 97 := by
  cases l with
  | nil => simp at hl
  | cons c l =>
    have hc : c = 97 := by simpa using h0
    subst hc
    have h1 := flat_len g (l := l) (fun x hx => h x (List.mem_cons_of_mem _ hx))
    have h2 : img I 97 = I.getD 0 [] := rfl
    have h3 := g.2.2.2.1
    have h4 := g.2.2.2.2
    rw [List.flatMap_cons, List.length_append, List.length_cons, h2]
    refine ⟨by omega, ?_⟩
    rw [List.getD_eq_getElem?_getD, List.getElem?_append_left (by omega), ← List.getD_eq_getElem?_getD]
    exact h4
theorem flat_take {I : List (List UInt8)} (l : List UInt8) (i : Nat) (h : i < l.length) : (l.take (i + 1)).flatMap (img I) = (l.take i).flatMap (img I) ++ img I (l[i]'h) := by
  rw [List.take_succ_eq_append_getElem h, List.flatMap_append]
  simp
def idOf (s : ByteArray) : Option Nat := if s.toList = [102, 105, 98, 111, 110, 97, 99, 99, 105] then some 0 else if s.toList = [116, 104, 117, 101] then some 1 else if s.toList = [100, 111, 117, 98, 108, 105, 110, 103] then some 2 else if s.toList = [116, 114, 105, 112, 108, 101] then some 3 else none
def namedR (s : ByteArray) (m : Int) : ByteArray × Int := if m < 0 ∨ 60 < m then (tE, 2) else match idOf s with
  | none => (tE, 4)
  | some d => (bt ((namedS d m.toNat).take m.toNat), 0)
theorem namedR_out {s : ByteArray} {m : Int} (h : m < 0 ∨ 60 < m) : namedR s m = (⟨#[]⟩, 2) := if_pos h
theorem namedR_none {s : ByteArray} {m : Int} (h : ¬ (m < 0 ∨ 60 < m)) (h2 : idOf s = none) : namedR s m = (⟨#[]⟩, 4) := by unfold namedR; rw [if_neg h, h2]; rfl
theorem namedR_some {s : ByteArray} {m : Nat} {d : Nat} (h : m ≤ 60) (h2 : idOf s = some d) : namedR s (m : Int) = (bt ((namedS d m).take m), 0) := by unfold namedR; rw [if_neg (by omega), h2]; rfl
/-- The five ways in which a name is looked up, as the comparisons come out. -/
def way (s : ByteArray) (d : Nat) : Prop := (s.toList == [102, 105, 98, 111, 110, 97, 99, 99, 105]) = decide (d = 0) ∧ (1 ≤ d → (s.toList == [116, 104, 117, 101]) = decide (d = 1)) ∧ (2 ≤ d → (s.toList == [100, 111, 117, 98, 108, 105, 110, 103]) = decide (d = 2)) ∧ (3 ≤ d → (s.toList == [116, 114, 105, 112, 108, 101]) = decide (d = 3))
theorem way_of (s : ByteArray) : (idOf s = none ∧ way s 4) ∨ ∃ d, d < 4 ∧ idOf s = some d ∧ way s d := by
  unfold idOf way
  by_cases h0 : s.toList = [102, 105, 98, 111, 110, 97, 99, 99, 105]
  · exact .inr ⟨0, by omega, by rw [if_pos h0], by simp [h0], fun h => by omega, fun h => by omega, fun h => by omega⟩
  · by_cases h1 : s.toList = [116, 104, 117, 101]
    · exact .inr ⟨1, by omega, by rw [if_neg h0, if_pos h1], by simp [h0], fun _ => by simp [h1], fun h => by omega, fun h => by omega⟩
    · by_cases h2 : s.toList = [100, 111, 117, 98, 108, 105, 110, 103]
      · exact .inr ⟨2, by omega, by rw [if_neg h0, if_neg h1, if_pos h2], by simp [h0], fun _ => by simp [h1], fun _ => by simp [h2], fun h => by omega⟩
      · by_cases h3 : s.toList = [116, 114, 105, 112, 108, 101]
        · exact .inr ⟨3, by omega, by rw [if_neg h0, if_neg h1, if_neg h2, if_pos h3], by simp [h0], fun _ => by simp [h1], fun _ => by simp [h2], fun _ => by simp [h3]⟩
        · exact .inl ⟨by rw [if_neg h0, if_neg h1, if_neg h2, if_neg h3], by simp [h0], fun _ => by simp [h1], fun _ => by simp [h2], fun _ => by simp [h3]⟩

end Go.Proofs.YtfipbnognjepkaaGreatDoor

/-! ### Named -/
namespace Go.Proofs.YtfipbnognjepkaaGreatDoor
set_option linter.unusedVariables false
set_option linter.unusedSimpArgs false
open Go.RowKit

def szOf : Value → Nat
  | .string t => t.size
  | _ => 0
theorem OwnS.rowS {w : World} {B : Nat} {v : Value} {I : List (List UInt8)} (h : OwnS w B v (I.map bt)) (hn : 0 < I.length) :
    ∃ g cap, v = .slice (some ⟨g, 0, none⟩) I.length cap ∧ g < w.heap.size ∧ I.length ≤ cap ∧ (∀ j (hj : j < I.length), w.cell? ⟨g, j, none⟩ = some (.string (bt (I[j]'hj)))) := by
  obtain ⟨g, cap, hv, _, hg, hc, _, cell, _⟩ := OwnS.row h (by simpa using hn)
  rw [List.length_map] at hv hc
  refine ⟨g, cap, hv, hg, hc, fun j hj => ?_⟩
  rw [cell j (by simpa using hj), List.getElem_map]


end Go.Proofs.YtfipbnognjepkaaGreatDoor

/-! ### NamedS -/
namespace Go.Proofs.YtfipbnognjepkaaGreatDoor
set_option linter.unusedVariables false
set_option linter.unusedSimpArgs false
open Go.RowKit

set_option maxRecDepth 100000 in
set_option maxHeartbeats 4000000 in
theorem l01Named_none (s : ByteArray) (m : Int) (w : World) (hw : way s 4) :
    Calls Tryz.prog 173 #[.string s, .int .i64 m] w fun e w' => e = .returned (.tuple #[.string ⟨#[]⟩, .bool false]) ∧ Below w.heap.size w w' := by
  obtain ⟨t0, t1, t2, t3⟩ := hw
  have t1 := t1 (by omega)
  have t2 := t2 (by omega)
  have t3 := t3 (by omega)
  rw [show decide (4 = 0) = false from rfl] at t0
  rw [show decide (4 = 1) = false from rfl] at t1
  rw [show decide (4 = 2) = false from rfl] at t2
  rw [show decide (4 = 3) = false from rfl] at t3
  go_enter Tryz.func173, Tryz.ntmps173
  go_wp2
  go_ret2
  exact ⟨rfl, Below.new _ _⟩

set_option maxRecDepth 100000 in
set_option maxHeartbeats 8000000 in
theorem l01Named_some (s : ByteArray) (m d : Nat) (w : World) (hd : d < 4) (hm : m ≤ 60) (hw : way s d) :
    Calls Tryz.prog 173 #[.string s, .int .i64 (m : Int)] w fun e w' => e = .returned (.tuple #[.string (bt ((namedS d m).take m)), .bool true]) ∧ Below w.heap.size w w' := by
  rcases (show d = 0 ∨ d = 1 ∨ d = 2 ∨ d = 3 by omega) with rfl | rfl | rfl | rfl
  · obtain ⟨t0, t1, t2, t3⟩ := hw
    clear t1 t2 t3
    simp at t0
    go_enter Tryz.func173, Tryz.ntmps173
    go_wp2_with fail
    obtain ⟨W1, hW1⟩ : ∃ W1 : World, W1 = (w.alloc (.cells #[] 9)).alloc (.cells #[.string ⟨#[97, 98]⟩, .string ⟨#[97]⟩] 9) := ⟨_, rfl⟩
    have o1 : OwnS W1 (w.heap.size + 1) (.slice (some ⟨w.heap.size + 1, 0, none⟩) 2 2) ((imgs 0).map bt) := by
      have h := World.ownsRow_lit (base := w.heap.size + 1) (size := 1) (w.alloc (.cells #[] 9)) #[.string ⟨#[97, 98]⟩, .string ⟨#[97]⟩] 2 (e := 9) (by simp) (by decide) rfl
      rw [show (w.alloc (.cells #[] 9)).heap.size = w.heap.size + 1 by simp] at h
      rw [hW1]
      exact h
    have B1 : Below w.heap.size w W1 := by rw [hW1]; exact (Below.new _ _).alloc (by simp) _
    have hsz1 : W1.heap.size = w.heap.size + 2 := by rw [hW1]; simp
    rw [← hW1]
    have HZ1 := Lib.hid hsz1
    have HG := Lib.hid (imgs_good 0 (by omega))
    have HI : Hid (specRun (imgs 0) m 60 [97] = namedS 0 m) := Lib.hid rfl
    have hIn : (imgs 0).length = 2 := rfl
    obtain ⟨g, cap, hv, hg, _, cell⟩ := o1.rowS (by rw [hIn]; omega)
    have hgv : g = w.heap.size + 1 := by injection hv with h1; injection h1 with h1; injection h1 with h1; exact h1.symm
    subst hgv
    have C := Lib.hid cell
    clear hW1 o1 cell hv hsz1 hg
    generalize hIm : imgs 0 = I at *
    have hIle : I.length ≤ 2 := by omega
    clear hIm hIn
    have hbz1 := B1.size
    have hgl : w.heap.size + 1 < W1.heap.size := by have := HZ1.out; omega
    go_wp2_with fail
    go_loopw [7] (fun o wr => ∃ (f : Nat) (l : List UInt8) (t : ByteArray), o = .string t ∧ Hid (t = bt l) ∧ Hid (t.size = l.length) ∧ t.size ≤ 180 ∧ 1 ≤ l.length ∧ m ≤ l.length + f ∧ Hid (lets I l) ∧ Hid (l.getD 0 0 = 97) ∧ Below W1.heap.size W1 wr ∧ Hid (specRun I m f l = namedS 0 m)) (fun o _ => m - szOf o)
    case atStart => exact ⟨60, [97], bt [97], rfl, Lib.hid rfl, Lib.hid rfl, by show 1 ≤ 180; omega, by show 1 ≤ 1; omega, by show m ≤ 1 + 60; omega, Lib.hid (fun c hc => by simp at hc; subst hc; have := HG.out.2.1; exact ⟨by decide, by show 97 - 97 < _; omega⟩), Lib.hid rfl, Below.refl _ _, HI⟩
    case round =>
      obtain ⟨f, l, t, rfl, HT, HS, ht180, hl1, hf, HL, H97, hB, HR⟩ := hrel
      obtain ⟨wo, rfl⟩ : ∃ wo : World, wo = wr := ⟨_, rfl⟩
      have hts := HS.out
      by_cases hlt : l.length < m
      · obtain ⟨f, rfl⟩ : ∃ k, f = k + 1 := ⟨f - 1, by omega⟩
        have hltm : (t.size : Int) < (m : Int) := by omega
        have hstep := specRun_step (I := I) (f := f) hlt
        have HST := Lib.hid hstep
        have hgr := flat_grows HG.out HL.out H97.out (by omega)
        have HGR := Lib.hid hgr
        have HLF := Lib.hid (lets_flat HG.out HL.out)
        have hfl := (flat_len HG.out HL.out).2
        have ht60 : t.size ≤ 60 := by omega
        clear hstep hgr
        go_wp2_with fail
        go_loopw [8, 9] (fun u q wr => ∃ (i : Nat) (r : ByteArray), q = .int .i64 i ∧ u = .string r ∧ Hid (r = bt ((l.take i).flatMap (img I))) ∧ r.size ≤ 3 * i ∧ i ≤ l.length ∧ Below W1.heap.size W1 wr) (fun _ q _ => l.length - (intOf q).toNat)
        case atStart => exact ⟨0, ⟨#[]⟩, rfl, rfl, Lib.hid rfl, by show 0 ≤ _; omega, Nat.zero_le _, hB⟩
        case round =>
          clear hB
          obtain ⟨i, r, rfl, rfl, HRR, hr3, hil, hB⟩ := hrel
          by_cases hi : i < l.length
          · have hit : i < t.size := by omega
            have hti : t[i]'hit = l[i]'hi := by
              have h2 : i < (bt l).size := hi
              have h3 : (bt l)[i]'h2 = l[i]'hi := rfl
              have h4 : t[i]'hit = (bt l)[i]'h2 := by
                have := HT.out
                subst this
                rfl
              rw [h4, h3]
            have hle := HL.out (l[i]'hi) (List.getElem_mem _)
            have hmem := img_mem hle.2
            have hgi := HG.out.1 _ hmem
            have hft := flat_take (I := I) l i hi
            have hcell := C.out _ hle.2
            rw [show I[(l[i]'hi).toNat - 97]'hle.2 = img I (l[i]'hi) by unfold img; rw [List.getD_eq_getElem?_getD, List.getElem?_eq_getElem hle.2]; rfl] at hcell
            rw [← hti] at hle hgi hcell hft
            generalize hrg : img I (t[i]'hit) = rr at *
            obtain ⟨a1, a2⟩ := hle
            obtain ⟨r1, r3, hrl⟩ := hgi
            obtain ⟨n, hn⟩ : ∃ n : Nat, ((t[i]'hit).toNat : Int) = (n : Int) + 97 := ⟨(t[i]'hit).toNat - 97, by omega⟩
            have hnn : (t[i]'hit).toNat - 97 = n := by omega
            rw [hnn] at hcell a2
            have E1 : Hid (((t[i]'hit).toNat : Int) - 97 = n) := Lib.hid (by omega)
            have hn2 : n < 2 := by omega
            have happ : r ++ bt rr = bt ((l.take (i + 1)).flatMap (img I)) := by rw [HRR.out, bt_app, hft]
            have hrs : (bt rr).size = rr.length := rfl
            have HAP := Lib.hid happ
            generalize hbr : bt rr = tr at *
            have htr : tr.size ≤ 3 := by omega
            have hasz : (r ++ tr).size = r.size + tr.size := ByteArray.size_append
            have HAS := Lib.hid hasz
            have HC := Lib.hid hcell
            clear hti hmem hft hrg hrl hnn happ hrs hbr hasz hn hcell
            go_wp2_with fail
            refine (l01At_any t i _ hit ht60).mono ?_
            rintro e w2 ⟨rfl, b2⟩
            rw [E1.out]
            have hB2 := hB.then b2
            have kc : w2.cell? ⟨w.heap.size + 1, n, none⟩ = some (.string tr) := by rw [(bcell hB2).1 _ n hgl]; exact HC.out
            go_wp2_with fail
            go_roundw
            case rel => exact ⟨i + 1, r ++ tr, by go_num, rfl, HAP, by have := HAS.out; omega, by omega, hB2⟩
            case measure => simp [intOf]; omega
          · have hE : i = l.length := by omega
            have HN : Hid (r = bt (l.flatMap (img I))) := Lib.hid (by rw [HRR.out, hE, List.take_of_length_le (Nat.le_refl _)])
            have hrz : r.size = (l.flatMap (img I)).length := by rw [HN.out]; rfl
            have HRZ := Lib.hid hrz
            clear hE hrz
            go_wp2_with fail
            go_roundw
            case rel =>
              have q1 := HRZ.out
              have q2 := HGR.out.1
              exact ⟨f, l.flatMap (img I), r, rfl, HN, HRZ, by omega, by omega, by omega, HLF, Lib.hid HGR.out.2, hB, Lib.hid (by rw [← HR.out, HST.out])⟩
            case measure =>
              have q1 := HRZ.out
              have q2 := HGR.out.1
              show m - r.size < m - t.size
              omega
      · have hR := HR.out
        rw [specRun_end hlt] at hR
        have hx : t.extract 0 m = bt ((namedS 0 m).take m) := by rw [HT.out, bt_take, hR]
        have HX := Lib.hid hx
        have hge : m ≤ t.size := by omega
        clear hR hx hlt
        go_wp2_with fail
        go_ret2
        exact ⟨by rw [← HX.out]; rfl, B1.then hB⟩
  · obtain ⟨t0, t1, t2, t3⟩ := hw
    have t1 := t1 (by omega)
    clear t2 t3
    simp at t0 t1
    go_enter Tryz.func173, Tryz.ntmps173
    go_wp2_with fail
    obtain ⟨W1, hW1⟩ : ∃ W1 : World, W1 = (w.alloc (.cells #[] 9)).alloc (.cells #[.string ⟨#[97, 98]⟩, .string ⟨#[98, 97]⟩] 9) := ⟨_, rfl⟩
    have o1 : OwnS W1 (w.heap.size + 1) (.slice (some ⟨w.heap.size + 1, 0, none⟩) 2 2) ((imgs 1).map bt) := by
      have h := World.ownsRow_lit (base := w.heap.size + 1) (size := 1) (w.alloc (.cells #[] 9)) #[.string ⟨#[97, 98]⟩, .string ⟨#[98, 97]⟩] 2 (e := 9) (by simp) (by decide) rfl
      rw [show (w.alloc (.cells #[] 9)).heap.size = w.heap.size + 1 by simp] at h
      rw [hW1]
      exact h
    have B1 : Below w.heap.size w W1 := by rw [hW1]; exact (Below.new _ _).alloc (by simp) _
    have hsz1 : W1.heap.size = w.heap.size + 2 := by rw [hW1]; simp
    rw [← hW1]
    have HZ1 := Lib.hid hsz1
    have HG := Lib.hid (imgs_good 1 (by omega))
    have HI : Hid (specRun (imgs 1) m 60 [97] = namedS 1 m) := Lib.hid rfl
    have hIn : (imgs 1).length = 2 := rfl
    obtain ⟨g, cap, hv, hg, _, cell⟩ := o1.rowS (by rw [hIn]; omega)
    have hgv : g = w.heap.size + 1 := by injection hv with h1; injection h1 with h1; injection h1 with h1; exact h1.symm
    subst hgv
    have C := Lib.hid cell
    clear hW1 o1 cell hv hsz1 hg
    generalize hIm : imgs 1 = I at *
    have hIle : I.length ≤ 2 := by omega
    clear hIm hIn
    have hbz1 := B1.size
    have hgl : w.heap.size + 1 < W1.heap.size := by have := HZ1.out; omega
    go_wp2_with fail
    go_loopw [7] (fun o wr => ∃ (f : Nat) (l : List UInt8) (t : ByteArray), o = .string t ∧ Hid (t = bt l) ∧ Hid (t.size = l.length) ∧ t.size ≤ 180 ∧ 1 ≤ l.length ∧ m ≤ l.length + f ∧ Hid (lets I l) ∧ Hid (l.getD 0 0 = 97) ∧ Below W1.heap.size W1 wr ∧ Hid (specRun I m f l = namedS 1 m)) (fun o _ => m - szOf o)
    case atStart => exact ⟨60, [97], bt [97], rfl, Lib.hid rfl, Lib.hid rfl, by show 1 ≤ 180; omega, by show 1 ≤ 1; omega, by show m ≤ 1 + 60; omega, Lib.hid (fun c hc => by simp at hc; subst hc; have := HG.out.2.1; exact ⟨by decide, by show 97 - 97 < _; omega⟩), Lib.hid rfl, Below.refl _ _, HI⟩
    case round =>
      obtain ⟨f, l, t, rfl, HT, HS, ht180, hl1, hf, HL, H97, hB, HR⟩ := hrel
      obtain ⟨wo, rfl⟩ : ∃ wo : World, wo = wr := ⟨_, rfl⟩
      have hts := HS.out
      by_cases hlt : l.length < m
      · obtain ⟨f, rfl⟩ : ∃ k, f = k + 1 := ⟨f - 1, by omega⟩
        have hltm : (t.size : Int) < (m : Int) := by omega
        have hstep := specRun_step (I := I) (f := f) hlt
        have HST := Lib.hid hstep
        have hgr := flat_grows HG.out HL.out H97.out (by omega)
        have HGR := Lib.hid hgr
        have HLF := Lib.hid (lets_flat HG.out HL.out)
        have hfl := (flat_len HG.out HL.out).2
        have ht60 : t.size ≤ 60 := by omega
        clear hstep hgr
        go_wp2_with fail
        go_loopw [8, 9] (fun u q wr => ∃ (i : Nat) (r : ByteArray), q = .int .i64 i ∧ u = .string r ∧ Hid (r = bt ((l.take i).flatMap (img I))) ∧ r.size ≤ 3 * i ∧ i ≤ l.length ∧ Below W1.heap.size W1 wr) (fun _ q _ => l.length - (intOf q).toNat)
        case atStart => exact ⟨0, ⟨#[]⟩, rfl, rfl, Lib.hid rfl, by show 0 ≤ _; omega, Nat.zero_le _, hB⟩
        case round =>
          clear hB
          obtain ⟨i, r, rfl, rfl, HRR, hr3, hil, hB⟩ := hrel
          by_cases hi : i < l.length
          · have hit : i < t.size := by omega
            have hti : t[i]'hit = l[i]'hi := by
              have h2 : i < (bt l).size := hi
              have h3 : (bt l)[i]'h2 = l[i]'hi := rfl
              have h4 : t[i]'hit = (bt l)[i]'h2 := by
                have := HT.out
                subst this
                rfl
              rw [h4, h3]
            have hle := HL.out (l[i]'hi) (List.getElem_mem _)
            have hmem := img_mem hle.2
            have hgi := HG.out.1 _ hmem
            have hft := flat_take (I := I) l i hi
            have hcell := C.out _ hle.2
            rw [show I[(l[i]'hi).toNat - 97]'hle.2 = img I (l[i]'hi) by unfold img; rw [List.getD_eq_getElem?_getD, List.getElem?_eq_getElem hle.2]; rfl] at hcell
            rw [← hti] at hle hgi hcell hft
            generalize hrg : img I (t[i]'hit) = rr at *
            obtain ⟨a1, a2⟩ := hle
            obtain ⟨r1, r3, hrl⟩ := hgi
            obtain ⟨n, hn⟩ : ∃ n : Nat, ((t[i]'hit).toNat : Int) = (n : Int) + 97 := ⟨(t[i]'hit).toNat - 97, by omega⟩
            have hnn : (t[i]'hit).toNat - 97 = n := by omega
            rw [hnn] at hcell a2
            have E1 : Hid (((t[i]'hit).toNat : Int) - 97 = n) := Lib.hid (by omega)
            have hn2 : n < 2 := by omega
            have happ : r ++ bt rr = bt ((l.take (i + 1)).flatMap (img I)) := by rw [HRR.out, bt_app, hft]
            have hrs : (bt rr).size = rr.length := rfl
            have HAP := Lib.hid happ
            generalize hbr : bt rr = tr at *
            have htr : tr.size ≤ 3 := by omega
            have hasz : (r ++ tr).size = r.size + tr.size := ByteArray.size_append
            have HAS := Lib.hid hasz
            have HC := Lib.hid hcell
            clear hti hmem hft hrg hrl hnn happ hrs hbr hasz hn hcell
            go_wp2_with fail
            refine (l01At_any t i _ hit ht60).mono ?_
            rintro e w2 ⟨rfl, b2⟩
            rw [E1.out]
            have hB2 := hB.then b2
            have kc : w2.cell? ⟨w.heap.size + 1, n, none⟩ = some (.string tr) := by rw [(bcell hB2).1 _ n hgl]; exact HC.out
            go_wp2_with fail
            go_roundw
            case rel => exact ⟨i + 1, r ++ tr, by go_num, rfl, HAP, by have := HAS.out; omega, by omega, hB2⟩
            case measure => simp [intOf]; omega
          · have hE : i = l.length := by omega
            have HN : Hid (r = bt (l.flatMap (img I))) := Lib.hid (by rw [HRR.out, hE, List.take_of_length_le (Nat.le_refl _)])
            have hrz : r.size = (l.flatMap (img I)).length := by rw [HN.out]; rfl
            have HRZ := Lib.hid hrz
            clear hE hrz
            go_wp2_with fail
            go_roundw
            case rel =>
              have q1 := HRZ.out
              have q2 := HGR.out.1
              exact ⟨f, l.flatMap (img I), r, rfl, HN, HRZ, by omega, by omega, by omega, HLF, Lib.hid HGR.out.2, hB, Lib.hid (by rw [← HR.out, HST.out])⟩
            case measure =>
              have q1 := HRZ.out
              have q2 := HGR.out.1
              show m - r.size < m - t.size
              omega
      · have hR := HR.out
        rw [specRun_end hlt] at hR
        have hx : t.extract 0 m = bt ((namedS 1 m).take m) := by rw [HT.out, bt_take, hR]
        have HX := Lib.hid hx
        have hge : m ≤ t.size := by omega
        clear hR hx hlt
        go_wp2_with fail
        go_ret2
        exact ⟨by rw [← HX.out]; rfl, B1.then hB⟩
  · obtain ⟨t0, t1, t2, t3⟩ := hw
    have t1 := t1 (by omega)
    have t2 := t2 (by omega)
    clear t3
    simp at t0 t1 t2
    go_enter Tryz.func173, Tryz.ntmps173
    go_wp2_with fail
    obtain ⟨W1, hW1⟩ : ∃ W1 : World, W1 = (w.alloc (.cells #[] 9)).alloc (.cells #[.string ⟨#[97, 98]⟩, .string ⟨#[97, 97]⟩] 9) := ⟨_, rfl⟩
    have o1 : OwnS W1 (w.heap.size + 1) (.slice (some ⟨w.heap.size + 1, 0, none⟩) 2 2) ((imgs 2).map bt) := by
      have h := World.ownsRow_lit (base := w.heap.size + 1) (size := 1) (w.alloc (.cells #[] 9)) #[.string ⟨#[97, 98]⟩, .string ⟨#[97, 97]⟩] 2 (e := 9) (by simp) (by decide) rfl
      rw [show (w.alloc (.cells #[] 9)).heap.size = w.heap.size + 1 by simp] at h
      rw [hW1]
      exact h
    have B1 : Below w.heap.size w W1 := by rw [hW1]; exact (Below.new _ _).alloc (by simp) _
    have hsz1 : W1.heap.size = w.heap.size + 2 := by rw [hW1]; simp
    rw [← hW1]
    have HZ1 := Lib.hid hsz1
    have HG := Lib.hid (imgs_good 2 (by omega))
    have HI : Hid (specRun (imgs 2) m 60 [97] = namedS 2 m) := Lib.hid rfl
    have hIn : (imgs 2).length = 2 := rfl
    obtain ⟨g, cap, hv, hg, _, cell⟩ := o1.rowS (by rw [hIn]; omega)
    have hgv : g = w.heap.size + 1 := by injection hv with h1; injection h1 with h1; injection h1 with h1; exact h1.symm
    subst hgv
    have C := Lib.hid cell
    clear hW1 o1 cell hv hsz1 hg
    generalize hIm : imgs 2 = I at *
    have hIle : I.length ≤ 2 := by omega
    clear hIm hIn
    have hbz1 := B1.size
    have hgl : w.heap.size + 1 < W1.heap.size := by have := HZ1.out; omega
    go_wp2_with fail
    go_loopw [7] (fun o wr => ∃ (f : Nat) (l : List UInt8) (t : ByteArray), o = .string t ∧ Hid (t = bt l) ∧ Hid (t.size = l.length) ∧ t.size ≤ 180 ∧ 1 ≤ l.length ∧ m ≤ l.length + f ∧ Hid (lets I l) ∧ Hid (l.getD 0 0 = 97) ∧ Below W1.heap.size W1 wr ∧ Hid (specRun I m f l = namedS 2 m)) (fun o _ => m - szOf o)
    case atStart => exact ⟨60, [97], bt [97], rfl, Lib.hid rfl, Lib.hid rfl, by show 1 ≤ 180; omega, by show 1 ≤ 1; omega, by show m ≤ 1 + 60; omega, Lib.hid (fun c hc => by simp at hc; subst hc; have := HG.out.2.1; exact ⟨by decide, by show 97 - 97 < _; omega⟩), Lib.hid rfl, Below.refl _ _, HI⟩
    case round =>
      obtain ⟨f, l, t, rfl, HT, HS, ht180, hl1, hf, HL, H97, hB, HR⟩ := hrel
      obtain ⟨wo, rfl⟩ : ∃ wo : World, wo = wr := ⟨_, rfl⟩
      have hts := HS.out
      by_cases hlt : l.length < m
      · obtain ⟨f, rfl⟩ : ∃ k, f = k + 1 := ⟨f - 1, by omega⟩
        have hltm : (t.size : Int) < (m : Int) := by omega
        have hstep := specRun_step (I := I) (f := f) hlt
        have HST := Lib.hid hstep
        have hgr := flat_grows HG.out HL.out H97.out (by omega)
        have HGR := Lib.hid hgr
        have HLF := Lib.hid (lets_flat HG.out HL.out)
        have hfl := (flat_len HG.out HL.out).2
        have ht60 : t.size ≤ 60 := by omega
        clear hstep hgr
        go_wp2_with fail
        go_loopw [8, 9] (fun u q wr => ∃ (i : Nat) (r : ByteArray), q = .int .i64 i ∧ u = .string r ∧ Hid (r = bt ((l.take i).flatMap (img I))) ∧ r.size ≤ 3 * i ∧ i ≤ l.length ∧ Below W1.heap.size W1 wr) (fun _ q _ => l.length - (intOf q).toNat)
        case atStart => exact ⟨0, ⟨#[]⟩, rfl, rfl, Lib.hid rfl, by show 0 ≤ _; omega, Nat.zero_le _, hB⟩
        case round =>
          clear hB
          obtain ⟨i, r, rfl, rfl, HRR, hr3, hil, hB⟩ := hrel
          by_cases hi : i < l.length
          · have hit : i < t.size := by omega
            have hti : t[i]'hit = l[i]'hi := by
              have h2 : i < (bt l).size := hi
              have h3 : (bt l)[i]'h2 = l[i]'hi := rfl
              have h4 : t[i]'hit = (bt l)[i]'h2 := by
                have := HT.out
                subst this
                rfl
              rw [h4, h3]
            have hle := HL.out (l[i]'hi) (List.getElem_mem _)
            have hmem := img_mem hle.2
            have hgi := HG.out.1 _ hmem
            have hft := flat_take (I := I) l i hi
            have hcell := C.out _ hle.2
            rw [show I[(l[i]'hi).toNat - 97]'hle.2 = img I (l[i]'hi) by unfold img; rw [List.getD_eq_getElem?_getD, List.getElem?_eq_getElem hle.2]; rfl] at hcell
            rw [← hti] at hle hgi hcell hft
            generalize hrg : img I (t[i]'hit) = rr at *
            obtain ⟨a1, a2⟩ := hle
            obtain ⟨r1, r3, hrl⟩ := hgi
            obtain ⟨n, hn⟩ : ∃ n : Nat, ((t[i]'hit).toNat : Int) = (n : Int) + 97 := ⟨(t[i]'hit).toNat - 97, by omega⟩
            have hnn : (t[i]'hit).toNat - 97 = n := by omega
            rw [hnn] at hcell a2
            have E1 : Hid (((t[i]'hit).toNat : Int) - 97 = n) := Lib.hid (by omega)
            have hn2 : n < 2 := by omega
            have happ : r ++ bt rr = bt ((l.take (i + 1)).flatMap (img I)) := by rw [HRR.out, bt_app, hft]
            have hrs : (bt rr).size = rr.length := rfl
            have HAP := Lib.hid happ
            generalize hbr : bt rr = tr at *
            have htr : tr.size ≤ 3 := by omega
            have hasz : (r ++ tr).size = r.size + tr.size := ByteArray.size_append
            have HAS := Lib.hid hasz
            have HC := Lib.hid hcell
            clear hti hmem hft hrg hrl hnn happ hrs hbr hasz hn hcell
            go_wp2_with fail
            refine (l01At_any t i _ hit ht60).mono ?_
            rintro e w2 ⟨rfl, b2⟩
            rw [E1.out]
            have hB2 := hB.then b2
            have kc : w2.cell? ⟨w.heap.size + 1, n, none⟩ = some (.string tr) := by rw [(bcell hB2).1 _ n hgl]; exact HC.out
            go_wp2_with fail
            go_roundw
            case rel => exact ⟨i + 1, r ++ tr, by go_num, rfl, HAP, by have := HAS.out; omega, by omega, hB2⟩
            case measure => simp [intOf]; omega
          · have hE : i = l.length := by omega
            have HN : Hid (r = bt (l.flatMap (img I))) := Lib.hid (by rw [HRR.out, hE, List.take_of_length_le (Nat.le_refl _)])
            have hrz : r.size = (l.flatMap (img I)).length := by rw [HN.out]; rfl
            have HRZ := Lib.hid hrz
            clear hE hrz
            go_wp2_with fail
            go_roundw
            case rel =>
              have q1 := HRZ.out
              have q2 := HGR.out.1
              exact ⟨f, l.flatMap (img I), r, rfl, HN, HRZ, by omega, by omega, by omega, HLF, Lib.hid HGR.out.2, hB, Lib.hid (by rw [← HR.out, HST.out])⟩
            case measure =>
              have q1 := HRZ.out
              have q2 := HGR.out.1
              show m - r.size < m - t.size
              omega
      · have hR := HR.out
        rw [specRun_end hlt] at hR
        have hx : t.extract 0 m = bt ((namedS 2 m).take m) := by rw [HT.out, bt_take, hR]
        have HX := Lib.hid hx
        have hge : m ≤ t.size := by omega
        clear hR hx hlt
        go_wp2_with fail
        go_ret2
        exact ⟨by rw [← HX.out]; rfl, B1.then hB⟩
  · obtain ⟨t0, t1, t2, t3⟩ := hw
    have t1 := t1 (by omega)
    have t2 := t2 (by omega)
    have t3 := t3 (by omega)
    simp at t0 t1 t2 t3
    go_enter Tryz.func173, Tryz.ntmps173
    go_wp2_with fail
    obtain ⟨W1, hW1⟩ : ∃ W1 : World, W1 = (w.alloc (.cells #[] 9)).alloc (.cells #[.string ⟨#[97, 98, 99]⟩, .string ⟨#[97, 99]⟩, .string ⟨#[98]⟩] 9) := ⟨_, rfl⟩
    have o1 : OwnS W1 (w.heap.size + 1) (.slice (some ⟨w.heap.size + 1, 0, none⟩) 3 3) ((imgs 3).map bt) := by
      have h := World.ownsRow_lit (base := w.heap.size + 1) (size := 1) (w.alloc (.cells #[] 9)) #[.string ⟨#[97, 98, 99]⟩, .string ⟨#[97, 99]⟩, .string ⟨#[98]⟩] 3 (e := 9) (by simp) (by decide) rfl
      rw [show (w.alloc (.cells #[] 9)).heap.size = w.heap.size + 1 by simp] at h
      rw [hW1]
      exact h
    have B1 : Below w.heap.size w W1 := by rw [hW1]; exact (Below.new _ _).alloc (by simp) _
    have hsz1 : W1.heap.size = w.heap.size + 2 := by rw [hW1]; simp
    rw [← hW1]
    have HZ1 := Lib.hid hsz1
    have HG := Lib.hid (imgs_good 3 (by omega))
    have HI : Hid (specRun (imgs 3) m 60 [97] = namedS 3 m) := Lib.hid rfl
    have hIn : (imgs 3).length = 3 := rfl
    obtain ⟨g, cap, hv, hg, _, cell⟩ := o1.rowS (by rw [hIn]; omega)
    have hgv : g = w.heap.size + 1 := by injection hv with h1; injection h1 with h1; injection h1 with h1; exact h1.symm
    subst hgv
    have C := Lib.hid cell
    clear hW1 o1 cell hv hsz1 hg
    generalize hIm : imgs 3 = I at *
    have hIle : I.length ≤ 3 := by omega
    clear hIm hIn
    have hbz1 := B1.size
    have hgl : w.heap.size + 1 < W1.heap.size := by have := HZ1.out; omega
    go_wp2_with fail
    go_loopw [7] (fun o wr => ∃ (f : Nat) (l : List UInt8) (t : ByteArray), o = .string t ∧ Hid (t = bt l) ∧ Hid (t.size = l.length) ∧ t.size ≤ 180 ∧ 1 ≤ l.length ∧ m ≤ l.length + f ∧ Hid (lets I l) ∧ Hid (l.getD 0 0 = 97) ∧ Below W1.heap.size W1 wr ∧ Hid (specRun I m f l = namedS 3 m)) (fun o _ => m - szOf o)
    case atStart => exact ⟨60, [97], bt [97], rfl, Lib.hid rfl, Lib.hid rfl, by show 1 ≤ 180; omega, by show 1 ≤ 1; omega, by show m ≤ 1 + 60; omega, Lib.hid (fun c hc => by simp at hc; subst hc; have := HG.out.2.1; exact ⟨by decide, by show 97 - 97 < _; omega⟩), Lib.hid rfl, Below.refl _ _, HI⟩
    case round =>
      obtain ⟨f, l, t, rfl, HT, HS, ht180, hl1, hf, HL, H97, hB, HR⟩ := hrel
      obtain ⟨wo, rfl⟩ : ∃ wo : World, wo = wr := ⟨_, rfl⟩
      have hts := HS.out
      by_cases hlt : l.length < m
      · obtain ⟨f, rfl⟩ : ∃ k, f = k + 1 := ⟨f - 1, by omega⟩
        have hltm : (t.size : Int) < (m : Int) := by omega
        have hstep := specRun_step (I := I) (f := f) hlt
        have HST := Lib.hid hstep
        have hgr := flat_grows HG.out HL.out H97.out (by omega)
        have HGR := Lib.hid hgr
        have HLF := Lib.hid (lets_flat HG.out HL.out)
        have hfl := (flat_len HG.out HL.out).2
        have ht60 : t.size ≤ 60 := by omega
        clear hstep hgr
        go_wp2_with fail
        go_loopw [8, 9] (fun u q wr => ∃ (i : Nat) (r : ByteArray), q = .int .i64 i ∧ u = .string r ∧ Hid (r = bt ((l.take i).flatMap (img I))) ∧ r.size ≤ 3 * i ∧ i ≤ l.length ∧ Below W1.heap.size W1 wr) (fun _ q _ => l.length - (intOf q).toNat)
        case atStart => exact ⟨0, ⟨#[]⟩, rfl, rfl, Lib.hid rfl, by show 0 ≤ _; omega, Nat.zero_le _, hB⟩
        case round =>
          clear hB
          obtain ⟨i, r, rfl, rfl, HRR, hr3, hil, hB⟩ := hrel
          by_cases hi : i < l.length
          · have hit : i < t.size := by omega
            have hti : t[i]'hit = l[i]'hi := by
              have h2 : i < (bt l).size := hi
              have h3 : (bt l)[i]'h2 = l[i]'hi := rfl
              have h4 : t[i]'hit = (bt l)[i]'h2 := by
                have := HT.out
                subst this
                rfl
              rw [h4, h3]
            have hle := HL.out (l[i]'hi) (List.getElem_mem _)
            have hmem := img_mem hle.2
            have hgi := HG.out.1 _ hmem
            have hft := flat_take (I := I) l i hi
            have hcell := C.out _ hle.2
            rw [show I[(l[i]'hi).toNat - 97]'hle.2 = img I (l[i]'hi) by unfold img; rw [List.getD_eq_getElem?_getD, List.getElem?_eq_getElem hle.2]; rfl] at hcell
            rw [← hti] at hle hgi hcell hft
            generalize hrg : img I (t[i]'hit) = rr at *
            obtain ⟨a1, a2⟩ := hle
            obtain ⟨r1, r3, hrl⟩ := hgi
            obtain ⟨n, hn⟩ : ∃ n : Nat, ((t[i]'hit).toNat : Int) = (n : Int) + 97 := ⟨(t[i]'hit).toNat - 97, by omega⟩
            have hnn : (t[i]'hit).toNat - 97 = n := by omega
            rw [hnn] at hcell a2
            have E1 : Hid (((t[i]'hit).toNat : Int) - 97 = n) := Lib.hid (by omega)
            have hn2 : n < 3 := by omega
            have happ : r ++ bt rr = bt ((l.take (i + 1)).flatMap (img I)) := by rw [HRR.out, bt_app, hft]
            have hrs : (bt rr).size = rr.length := rfl
            have HAP := Lib.hid happ
            generalize hbr : bt rr = tr at *
            have htr : tr.size ≤ 3 := by omega
            have hasz : (r ++ tr).size = r.size + tr.size := ByteArray.size_append
            have HAS := Lib.hid hasz
            have HC := Lib.hid hcell
            clear hti hmem hft hrg hrl hnn happ hrs hbr hasz hn hcell
            go_wp2_with fail
            refine (l01At_any t i _ hit ht60).mono ?_
            rintro e w2 ⟨rfl, b2⟩
            rw [E1.out]
            have hB2 := hB.then b2
            have kc : w2.cell? ⟨w.heap.size + 1, n, none⟩ = some (.string tr) := by rw [(bcell hB2).1 _ n hgl]; exact HC.out
            go_wp2_with fail
            go_roundw
            case rel => exact ⟨i + 1, r ++ tr, by go_num, rfl, HAP, by have := HAS.out; omega, by omega, hB2⟩
            case measure => simp [intOf]; omega
          · have hE : i = l.length := by omega
            have HN : Hid (r = bt (l.flatMap (img I))) := Lib.hid (by rw [HRR.out, hE, List.take_of_length_le (Nat.le_refl _)])
            have hrz : r.size = (l.flatMap (img I)).length := by rw [HN.out]; rfl
            have HRZ := Lib.hid hrz
            clear hE hrz
            go_wp2_with fail
            go_roundw
            case rel =>
              have q1 := HRZ.out
              have q2 := HGR.out.1
              exact ⟨f, l.flatMap (img I), r, rfl, HN, HRZ, by omega, by omega, by omega, HLF, Lib.hid HGR.out.2, hB, Lib.hid (by rw [← HR.out, HST.out])⟩
            case measure =>
              have q1 := HRZ.out
              have q2 := HGR.out.1
              show m - r.size < m - t.size
              omega
      · have hR := HR.out
        rw [specRun_end hlt] at hR
        have hx : t.extract 0 m = bt ((namedS 3 m).take m) := by rw [HT.out, bt_take, hR]
        have HX := Lib.hid hx
        have hge : m ≤ t.size := by omega
        clear hR hx hlt
        go_wp2_with fail
        go_ret2
        exact ⟨by rw [← HX.out]; rfl, B1.then hB⟩

end Go.Proofs.YtfipbnognjepkaaGreatDoor

/-! ### Draw3 -/
namespace Go.Proofs.YtfipbnognjepkaaGreatDoor
set_option linter.unusedVariables false
set_option linter.unusedSimpArgs false
open Go.RowKit

def namesL : List ByteArray := [⟨#[102, 105, 98, 111, 110, 97, 99, 99, 105]⟩, ⟨#[116, 104, 117, 101]⟩, ⟨#[100, 111, 117, 98, 108, 105, 110, 103]⟩, ⟨#[116, 114, 105, 112, 108, 101]⟩]
theorem namesL_way : ∀ j (h : j < namesL.length), way (namesL[j]'h) j := by
  intro j h
  match j, h with
  | 0, _ | 1, _ | 2, _ | 3, _ =>
    unfold way
    simp only [ByteArray.toList_eq, namesL, List.getElem_cons_zero, List.getElem_cons_succ]
    decide
  | j + 4, h => simp [namesL] at h; omega

set_option maxRecDepth 100000 in
theorem l01Names_any (w : World) :
    Calls Tryz.prog 172 #[] w fun e w' => e = .returned (.slice (some ⟨w.heap.size, 0, none⟩) 4 4) ∧ w' = w.alloc (.cells (namesL.map Value.string).toArray 9) := by
  go_enter Tryz.func172, Tryz.ntmps172
  go_wp2
  go_ret
  exact ⟨rfl, rfl⟩

theorem names_alloc {W : World} {g : Nat} {o : Obj} (h : ∀ j (h : j < namesL.length), W.cell? ⟨g, j, none⟩ = some (.string (namesL[j]'h))) (hg : g < W.heap.size) : ∀ j (h : j < namesL.length), (W.alloc o).cell? ⟨g, j, none⟩ = some (.string (namesL[j]'h)) := fun j hj => by
  rw [(Below.new W o).cell (p := ⟨g, j, none⟩) hg]; exact h j hj
theorem names_grown {W W' : World} {g b : Nat} (h : ∀ j (h : j < namesL.length), W.cell? ⟨g, j, none⟩ = some (.string (namesL[j]'h))) (hg : g < W.heap.size) (hb : g ≠ b) (k : W.grownBy W' (some b)) : ∀ j (h : j < namesL.length), W'.cell? ⟨g, j, none⟩ = some (.string (namesL[j]'h)) := fun j hj => by
  rw [grown_cell k (p := ⟨g, j, none⟩) hg (fun e => hb (Option.some.inj e))]; exact h j hj

set_option maxRecDepth 100000 in
set_option maxHeartbeats 4000000 in
theorem l01Draw_any (w0 W : World) (b : Nat) (hS : Src w0 W b) (hB : Below w0.heap.size w0 W) :
    Calls Tryz.prog 154 #[.pointer (some ⟨b, 0, none⟩)] W (DrawnT 60 w0 W b) := by
  have HB0 := hS.ge
  have CN := Lib.hid (l01Next_i w0 W b 6 hS hB (by omega) (by omega))
  clear hS
  go_enter Tryz.func154, Tryz.ntmps154
  go_wp2_with fail
  refine CN.out.mono ?_
  rintro e W1 ⟨v, rfl, v0, v1, s1, g1⟩
  have hB1 := below_src hB HB0 g1
  have hbl := s1.lt
  by_cases h0 : v = 0
  · subst h0
    go_wp2_with fail
    refine (l01Names_any _).mono ?_
    rintro e W2 ⟨rfl, hW2⟩
    have s2 : Src w0 W2 b := by rw [hW2]; exact s1.below (Below.new _ _)
    have hB2 : Below w0.heap.size w0 W2 := by rw [hW2]; exact hB1.alloc hB1.size _
    have g2 : W1.grownBy W2 (some b) := by rw [hW2]; exact grown_of_below (Below.new _ _) _
    have hcn : ∀ j (h : j < namesL.length), W2.cell? ⟨W1.heap.size, j, none⟩ = some (.string (namesL[j]'h)) := by rw [hW2]; exact cells_new_strs W1 namesL 9
    have hz2 : W1.heap.size < W2.heap.size := by rw [hW2]; simp
    have hgb : W1.heap.size ≠ b := by omega
    have hcD : ∀ j (h : j < namesL.length), W2.drew.cell? ⟨W1.heap.size, j, none⟩ = some (.string (namesL[j]'h)) := hcn
    have HW := Lib.hid namesL_way
    have hcE : ∀ j (h : j < namesL.length), (W2.alloc (.cells #[.int .i64 12, .int .i64 30, .int .i64 61] 2)).drew.cell? ⟨W1.heap.size, j, none⟩ = some (.string (namesL[j]'h)) := names_alloc hcn hz2
    have hLE : ∀ j (h : j < [12, 30, 61].length), (W2.alloc (.cells #[.int .i64 12, .int .i64 30, .int .i64 61] 2)).drew.cell? ⟨W2.heap.size, j, none⟩ = some (.int .i64 ([12, 30, 61][j]'h)) := cells_new_ints W2 [12, 30, 61] 2
    have hzE : (W2.alloc (.cells #[.int .i64 12, .int .i64 30, .int .i64 61] 2)).drew.heap.size = W2.heap.size + 1 := by show (W2.alloc _).heap.size = _; simp
    have hBE : Below w0.heap.size w0 (W2.alloc (.cells #[.int .i64 12, .int .i64 30, .int .i64 61] 2)).drew := (hB2.alloc hB2.size _).drew
    have hb2l := s2.lt
    clear hW2 CN hcn
    have hz2d : W1.heap.size < W2.drew.heap.size := hz2
    generalize hgg : W1.heap.size = gn at *
    go_wp2_with fail
    go_region_held3 (fun w' => ∀ j (h : j < namesL.length), w'.cell? ⟨gn, j, none⟩ = some (.string (namesL[j]'h))) (first | assumption | exact names_alloc (by assumption) (by first | omega | (simp; omega)))
     (first
      | (go_at_call 115; refine CC.out.mono ?_; clear CC; rintro e Wc ⟨vc, rfl, vc0, vc1, sc, gc⟩; obtain ⟨q, rfl⟩ := Int.eq_ofNat_of_zero_le vc0; have kc := names_grown kb hzb hgb gc; have hzc : gn < Wc.heap.size := Nat.lt_of_lt_of_le hzb gc.size; have CD := Lib.hid (l01Named_some (namesL[m]'hm) q m Wc (by omega) (by omega) (HW.out m hm)))
      | (go_at_call 115; refine (l01Next_i w0 _ b 4 (by first | exact s2 | exact s2.below (Below.new _ _).drew) (by first | exact hB2.drew | exact hBE) (by omega) (by omega)).mono ?_; rintro e Wa ⟨va, rfl, va0, va1, sa, ga⟩; have ka := names_grown (by first | exact hcD | exact hcE) (by first | exact hz2d | (rw [hzE]; omega)) hgb ga; have hba := below_src (by first | exact hB2.drew | exact hBE) HB0 ga; have hza : gn < Wa.heap.size := (by have h := ga.size; first | exact Nat.lt_of_lt_of_le hz2d h | (rw [hzE] at h; omega)); (first | (have hza2 : W2.heap.size < Wa.heap.size := (by have h := ga.size; rw [hzE] at h; omega); have hla : ∀ j (h : j < [12, 30, 61].length), Wa.cell? ⟨W2.heap.size, j, none⟩ = some (.int .i64 ([12, 30, 61][j]'h)) := (fun j hj => by rw [grown_cell ga (p := ⟨W2.heap.size, j, none⟩) (by show W2.heap.size < _; rw [hzE]; omega) (fun e => by have h : W2.heap.size = b := Option.some.inj e; omega)]; exact hLE j hj)) | skip); have gA : W2.grownBy Wa (some b) := (by first | exact ⟨ga.os, ga.tape, ga.output, ga.size, ga.block⟩ | exact grown_trans (grown_of_below ((Below.new W2 _).drew) _) ga); obtain ⟨m, rfl⟩ := Int.eq_ofNat_of_zero_le va0; have hm : m < namesL.length := (by simp [namesL]; omega); have hm4 : (m : Int) < 4 := (by omega))
      | (go_at_call 51; refine (l01Pick_any w0 Wa b W2.heap.size [12, 30, 61] sa hba hza2 (by omega) (by decide) (by decide) hla).mono ?_; rintro e Wb ⟨pb, rfl, hpb, sb, gb⟩; have hpb2 : 1 ≤ pb ∧ pb ≤ 61 := (by simp at hpb; omega); clear hpb; have gB : Wa.grownBy Wb (some b) := gb; have kb := names_grown ka hza hgb gb; have hbb := below_src hba HB0 gb; have hzb : gn < Wb.heap.size := (by have h := gb.size; omega); have CC := Lib.hid (l01Next_i w0 Wb b pb sb hbb hpb2.1 (by omega)))
      | (go_at_call 51; refine (l01Pick_any w0 _ b _ [12, 30, 61] (sa.below (Below.new _ _)) (hba.alloc hba.size _) (by simp) (by have := sa.lt; omega) (by decide) (by decide) (cells_new_ints Wa [12, 30, 61] _)).mono ?_; rintro e Wb ⟨pb, rfl, hpb, sb, gb⟩; have hpb2 : 1 ≤ pb ∧ pb ≤ 61 := (by simp at hpb; omega); clear hpb; have gB : Wa.grownBy Wb (some b) := grown_trans (grown_of_below (Below.new Wa _) _) gb; have kb := names_grown (names_alloc (o := .cells ([12, 30, 61].map (Value.int .i64)).toArray 2) ka hza) (by rw [World.size_alloc]; omega) hgb gb; have hbb := below_src (hba.alloc hba.size _) HB0 gb; have hzb : gn < Wb.heap.size := (by have h := gb.size; rw [World.size_alloc] at h; omega); have CC := Lib.hid (l01Next_i w0 Wb b pb sb hbb hpb2.1 (by omega)))
      | (go_at_call 173; refine CD.out.mono ?_; rintro e Wd ⟨rfl, bd⟩; have kd : ∀ j (h : j < namesL.length), Wd.cell? ⟨gn, j, none⟩ = some (.string (namesL[j]'h)) := fun j hj => (bd.cell (p := ⟨gn, j, none⟩) hzc).trans (kc j hj)))
    all_goals
      have hq60 : (bt ((namedS m q).take q)).size ≤ 60 := by rw [bt_size, List.length_take]; omega
      have gE := grown_trans (grown_trans (grown_trans (grown_trans (grown_trans g1 g2) gA) gB) gc) (grown_of_below bd (some b))
      have sE := sc.below bd
      go_wp2
      go_ret
      exact ⟨_, rfl, hq60, sE, gE⟩
  · by_cases h1 : v = 1
    · subst h1
      have CK := Lib.hid (l01Next_i w0 W1 b 6 s1 hB1 (by omega) (by omega))
      go_wp2_with fail
      refine CK.out.mono ?_
      rintro e W2 ⟨k, rfl, k0, k1, s2, g2⟩
      have hB2 := below_src hB1 HB0 g2
      have hbl2 := s2.lt
      go_wp2_with fail
      refine (l01Pick_any w0 _ b _ [2, 2, 3] (s2.below (Below.new _ _)) (hB2.alloc hB2.size _) (by simp) (by omega) (by decide) (by decide) (cells_new_ints W2 [2, 2, 3] _)).mono ?_
      rintro e W3 ⟨z, rfl, hz, s3, g3⟩
      have hz2 : 1 ≤ z ∧ z ≤ 5 := by simp at hz; omega
      have hB3 := below_src (hB2.alloc hB2.size _) HB0 g3
      have G3 := grown_trans (grown_trans g1 g2) (grown_trans (grown_of_below (Below.new W2 _) (some b)) g3)
      clear hz
      go_wp2_with fail
      refine (l01DrawOf_any w0 _ b (1 + k) z s3 hB3 (by omega) (by omega) hz2.1 hz2.2).mono ?_
      rintro e W4 ⟨u, rfl, hu, s4, g4⟩
      have hB4 := below_src hB3 HB0 g4
      have G4 := grown_trans G3 g4
      have CL := Lib.hid (l01Next_i w0 W4 b 4 s4 hB4 (by omega) (by omega))
      go_wp2_with fail
      refine CL.out.mono ?_
      rintro e W5 ⟨q, rfl, q0, q1, s5, g5⟩
      have hB5 := below_src hB4 HB0 g5
      have G5 := grown_trans G4 g5
      have hus : u.size ≤ 6 := by omega
      have hu1 : 1 ≤ u.size := by omega
      clear hu
      go_wp2_with fail
      go_loopg [7, 8] 4 (fun g s7 s8 wr => ∃ (t : ByteArray) (j : Int), 0 ≤ j ∧ j ≤ g ∧ t.size + j.toNat * 6 ≤ 24 ∧ s7 = .string t ∧ s8 = .int .i64 j ∧ wr = W5)
      case atStart => exact ⟨⟨#[]⟩, 1 + q, by omega, by omega, by show 0 + _ ≤ 24; omega, rfl, rfl, rfl⟩
      case round =>
        obtain ⟨t, j, j0, jg, ht, rfl, rfl, rfl⟩ := hrel
        by_cases hp : 0 < j
        · obtain ⟨g, rfl⟩ : ∃ g, gk = g + 1 := ⟨gk - 1, by omega⟩
          have hsum : ∀ W, (Op.stringOp .add t u).run Tryz.prog W = .ok (.string (t ++ u)) W := fun W => run_string_add_sum W _ _ (by omega)
          have y1 : (t ++ u).size = t.size + u.size := by rw [ByteArray.size_append]
          generalize t ++ u = o1 at *
          go_wp2
          go_roundg g
          case measure => omega
          case rel => exact ⟨o1, j - 1, by omega, by omega, by omega, rfl, by go_num, by first | rfl | trivial⟩
        · have CM := Lib.hid (l01Next_i w0 wr b u.size s5 hB5 (by omega) (by omega))
          have hts : t.size ≤ 24 := by omega
          go_wp2_with fail
          refine CM.out.mono ?_
          rintro e W6 ⟨p, rfl, p0, p1, s6, g6⟩
          obtain ⟨n, rfl⟩ := Int.eq_ofNat_of_zero_le p0
          have hsl1 := fun W => slice_to u (n : Int) n rfl (by omega) W
          have z1 : (u.extract 0 n).size = n := by simp; omega
          generalize u.extract 0 n = u1 at *
          have hsum : ∀ W, (Op.stringOp .add t u1).run Tryz.prog W = .ok (.string (t ++ u1)) W := fun W => run_string_add_sum W _ _ (by omega)
          have y1 : (t ++ u1).size = t.size + u1.size := by rw [ByteArray.size_append]
          generalize t ++ u1 = o1 at *
          have G6 := grown_trans G5 g6
          go_wp2_with fail
          go_ret
          exact ⟨o1, rfl, by omega, s6, G6⟩
    · by_cases h2 : v = 2
      · subst h2
        have CK := Lib.hid (l01Next_i w0 W1 b 12 s1 hB1 (by omega) (by omega))
        go_wp2_with fail
        refine CK.out.mono ?_
        rintro e W2 ⟨k, rfl, k0, k1, s2, g2⟩
        have hB2 := below_src hB1 HB0 g2
        have hbl2 := s2.lt
        go_wp2_with fail
        refine (l01Pick_any w0 _ b _ [2, 2, 3] (s2.below (Below.new _ _)) (hB2.alloc hB2.size _) (by simp) (by omega) (by decide) (by decide) (cells_new_ints W2 [2, 2, 3] _)).mono ?_
        rintro e W3 ⟨z, rfl, hz, s3, g3⟩
        have hz2 : 1 ≤ z ∧ z ≤ 5 := by simp at hz; omega
        have hB3 := below_src (hB2.alloc hB2.size _) HB0 g3
        have G3 := grown_trans (grown_trans g1 g2) (grown_trans (grown_of_below (Below.new W2 _) (some b)) g3)
        clear hz
        go_wp2_with fail
        refine (l01DrawOf_any w0 _ b k z s3 hB3 (by omega) k0 hz2.1 hz2.2).mono ?_
        rintro e W4 ⟨u, rfl, hu, s4, g4⟩
        have hB4 := below_src hB3 HB0 g4
        have G4 := grown_trans G3 g4
        have hus : u.size ≤ 11 := by omega
        clear hu
        have CL := Lib.hid (l01Next_i w0 W4 b 2 s4 hB4 (by omega) (by omega))
        go_wp2_with fail
        refine CL.out.mono ?_
        rintro e W5 ⟨q, rfl, q0, q1, s5, g5⟩
        have hB5 := below_src hB4 HB0 g5
        have G5 := grown_trans G4 g5
        go_wp2_with fail
        refine (l01DrawOf_any w0 _ b q 2 s5 hB5 (by omega) q0 (by omega) (by omega)).mono ?_
        rintro e W6 ⟨m, rfl, hm, s6, g6⟩
        have G6 := grown_trans G5 g6
        have hms : m.size ≤ 1 := by omega
        clear hm
        have hsum : ∀ W, (Op.stringOp .add u m).run Tryz.prog W = .ok (.string (u ++ m)) W := fun W => run_string_add_sum W _ _ (by omega)
        have y1 : (u ++ m).size = u.size + m.size := by rw [ByteArray.size_append]
        generalize u ++ m = o1 at *
        go_wp2_with fail
        refine (l01Reversed_any u _ (by omega)).mono ?_
        rintro e W7 ⟨rfl, b7⟩
        have hrv : (rev u).size = u.size := rev_size u
        generalize rev u = r at *
        have hsum2 : ∀ W, (Op.stringOp .add o1 r).run Tryz.prog W = .ok (.string (o1 ++ r)) W := fun W => run_string_add_sum W _ _ (by omega)
        have y2 : (o1 ++ r).size = o1.size + r.size := by rw [ByteArray.size_append]
        generalize o1 ++ r = o2 at *
        have s7 := s6.below b7
        have G7 := grown_trans G6 (grown_of_below b7 (some b))
        go_wp2_with fail
        go_ret
        exact ⟨o2, rfl, by omega, s7, G7⟩
      · by_cases h3 : v = 3
        · subst h3
          go_wp2_with fail
          refine (l01Pick_any w0 _ b _ [20, 40, 61] (s1.below (Below.new _ _)) (hB1.alloc hB1.size _) (by simp) (by omega) (by decide) (by decide) (cells_new_ints W1 [20, 40, 61] _)).mono ?_
          rintro e W2 ⟨k, rfl, hk, s2, g2⟩
          have hk2 : 1 ≤ k ∧ k ≤ 61 := by simp at hk; omega
          have hB2 := below_src (hB1.alloc hB1.size _) HB0 g2
          have G2 := grown_trans g1 (grown_trans (grown_of_below (Below.new W1 _) (some b)) g2)
          clear hk
          have CK := Lib.hid (l01Next_i w0 W2 b k s2 hB2 hk2.1 (by omega))
          go_wp2_with fail
          refine CK.out.mono ?_
          rintro e W3 ⟨q, rfl, q0, q1, s3, g3⟩
          have hB3 := below_src hB2 HB0 g3
          have hbl3 := s3.lt
          have G3 := grown_trans G2 g3
          go_wp2_with fail
          refine (l01Pick_any w0 _ b _ [1, 2, 2, 3, 3, 4, 5] (s3.below (Below.new _ _)) (hB3.alloc hB3.size _) (by simp) (by omega) (by decide) (by decide) (cells_new_ints W3 [1, 2, 2, 3, 3, 4, 5] _)).mono ?_
          rintro e W4 ⟨z, rfl, hz, s4, g4⟩
          have hz2 : 1 ≤ z ∧ z ≤ 5 := by simp at hz; omega
          have hB4 := below_src (hB3.alloc hB3.size _) HB0 g4
          have G4 := grown_trans G3 (grown_trans (grown_of_below (Below.new W3 _) (some b)) g4)
          clear hz
          go_wp2_with fail
          refine (l01DrawOf_any w0 _ b q z s4 hB4 (by omega) q0 hz2.1 hz2.2).mono ?_
          rintro e W5 ⟨u, rfl, hu, s5, g5⟩
          go_wp2_with fail
          go_ret
          exact ⟨u, rfl, by omega, s5, grown_trans G4 g5⟩
        · go_wp2_with fail
          refine (l01Small_any w0 W1 b s1 hB1).mono ?_
          rintro e W2 ⟨u, rfl, hu, s2, g2⟩
          go_wp2_with fail
          go_ret
          exact ⟨u, rfl, by omega, s2, grown_trans g1 g2⟩

end Go.Proofs.YtfipbnognjepkaaGreatDoor

/-! ### Draw09 -/
namespace Go.Proofs.YtfipbnognjepkaaGreatDoor
set_option linter.unusedVariables false
set_option linter.unusedSimpArgs false
open Go.RowKit

/-- What the ends of a word come to: some numbers below its length. -/
def EndsA (u : ByteArray) (w : World) (e : Ending) (w' : World) : Prop := ∃ v L, e = .returned v ∧ OwnI w' w.heap.size v L ∧ (∀ z ∈ L, 0 ≤ z ∧ z < (u.size : Int)) ∧ (0 < u.size → 0 < L.length) ∧ L.length ≤ u.size ∧ Below w.heap.size w w'

set_option maxRecDepth 100000 in
set_option maxHeartbeats 1000000 in
theorem l09Ends_any (u : ByteArray) (hu : u.size ≤ 60) (w : World) : Calls Tryz.prog 155 #[.string u] w (EndsA u w) := by
  obtain ⟨i0, hi, hz0, hz1, hz2⟩ := info_parts infoI64
  have o0 := OwnI.lit0 w (Nat.le_refl _)
  have b0 : Below w.heap.size w (w.alloc (.cells #[] 2)) := Below.new _ _
  go_enter Tryz.func155, Tryz.ntmps155
  go_wp2_with fail
  go_loopw [3, 4] (fun v i wr => ∃ (k : Nat) (L : List Int), k ≤ u.size ∧ i = .int .i64 (k : Int) ∧ OwnI wr w.heap.size v L ∧ (∀ z ∈ L, 0 ≤ z ∧ z < (k : Int)) ∧ (0 < k → 0 < L.length) ∧ L.length ≤ k ∧ Below w.heap.size w wr) (fun _ i _ => u.size - (intOf i).toNat)
  case atStart => exact ⟨0, [], Nat.zero_le _, rfl, o0, (fun z hz => by cases hz), (fun h => absurd h (Nat.lt_irrefl _)), Nat.le_refl _, b0⟩
  case round =>
    clear o0 b0
    obtain ⟨k, L, hk, rfl, hown, hL, hpos, hlen, hB⟩ := hrel
    have hbz := hB.size
    by_cases hp : k < u.size
    · have hsl1 := fun W => slice_to u (k : Int) k rfl (by omega) W
      have hsl2 := fun W => slice_from u ((u.size : Int) - (k : Int)) (u.size - k) (by omega) (by omega) W
      by_cases he : u.extract 0 k = u.extract (u.size - k) u.size
      · have heq : ((u.extract 0 k).toList == (u.extract (u.size - k) u.size).toList) = true := by rw [he]; simp
        generalize u.extract 0 k = s1 at *
        generalize u.extract (u.size - k) u.size = s2 at *
        subst he
        have HLL := Lib.hid hL
        clear hL
        go_wp2_with fail
        go_quiet (fail)
        have hown2 : OwnI (wr.drewN nq) w.heap.size _ L := hown
        have hB2 : Below w.heap.size w (wr.drewN nq) := hB.drewN _
        have hbz2 := hB2.size
        clear hown hB
        go_wp2_with (at_builtin; refine wpList_append_own _ rfl _ _ 45 rfl w.heap.size 2 i0 (.int .i64 0) 1 8 Tryz.underlying45 hi hz0 hz1 hz2 rfl (by decide) _ _ _ rfl (hown2.alloc _) ⟨_, 0, none⟩ 1 1 [.int .i64 (k : Int)] rfl rfl (cell_new _ _ _) (by intro u hu; simp at hu; subst hu; rfl) (by unfold maxLen; omega) (by omega) (by simp; omega) ?_; intro v' w3 hown' hgrow _)
        go_roundw
        case rel =>
          refine ⟨k + 1, L ++ [(k : Int)], by omega, by go_num, ?_, ?_, by simp, by simp; omega, (hB2.alloc hbz2 _).grown hgrow (by simp; omega) (fun q hq => (hown2.lt q hq).1)⟩
          · unfold OwnI; rw [List.length_append, ← map_snoc]; exact hown'
          · intro z hz
            rcases List.mem_append.1 hz with h | h
            · have := HLL.out z h; omega
            · rw [List.mem_singleton] at h; omega
        case measure => simp [intOf]; omega
      · have hk0 : 0 < k := by
          rcases Nat.eq_zero_or_pos k with h | h
          · subst h
            exact absurd (by apply bl_inj; rw [bl_extract, bl_extract]; simp [bl_len]) he
          · exact h
        have hne : ¬ (u.extract 0 k).toList = (u.extract (u.size - k) u.size).toList := fun h => he (bl_inj (by rw [ByteArray.toList_eq, ByteArray.toList_eq] at h; exact h))
        have heq : ((u.extract 0 k).toList == (u.extract (u.size - k) u.size).toList) = false := beq_eq_false_iff_ne.2 hne
        generalize u.extract 0 k = s1 at *
        generalize u.extract (u.size - k) u.size = s2 at *
        have HLL := Lib.hid hL
        clear hL he
        go_wp2_with fail
        go_quiet (fail)
        go_wp2_with fail
        go_roundw
        case rel => exact ⟨k + 1, L, by omega, by go_num, hown, (fun z hz => by have := HLL.out z hz; omega), (fun _ => hpos hk0), by omega, hB.drewN _⟩
        case measure => simp [intOf]; omega
    · obtain rfl : k = u.size := by omega
      have HO := Lib.hid hown
      have HLL := Lib.hid hL
      clear hown hL
      go_wp2_with fail
      go_ret
      exact ⟨_, L, rfl, HO.out, HLL.out, hpos, hlen, hB⟩

/-- What a draw of two texts comes to. -/
def DrawnTT (N : Nat) (w0 W : World) (b : Nat) (e : Ending) (W' : World) : Prop := ∃ x y : ByteArray, e = .returned (.tuple #[.string x, .string y]) ∧ x.size ≤ N ∧ y.size ≤ N ∧ Src w0 W' b ∧ W.grownBy W' (some b)

set_option maxRecDepth 100000 in
set_option maxHeartbeats 8000000 in
theorem l09Draw_any (w0 W : World) (b : Nat) (hS : Src w0 W b) (hB : Below w0.heap.size w0 W) :
    Calls Tryz.prog 113 #[.pointer (some ⟨b, 0, none⟩)] W (DrawnTT 300 w0 W b) := by
  have HB0 := hS.ge
  have s0 := hS
  have hB0 := hB
  have G0 := grown_refl W (some b)
  obtain ⟨W0, rfl⟩ : ∃ V, V = W := ⟨_, rfl⟩
  clear hS hB
  go_enter Tryz.func113, Tryz.ntmps113
  have C1 := Lib.hid (l01Next_i w0 W0 b 3 s0 hB0 (by omega) (by omega))
  clear s0
  go_wp2_with fail
  refine C1.out.mono ?_
  rintro e W1 ⟨t, rfl, t0, t1, s1, g1⟩
  clear C1
  have hB1 := below_src hB0 HB0 g1
  have G1 := grown_trans G0 g1
  clear hB0 g1 G0
  by_cases ht : t = 0
  · subst ht
    have C2 := Lib.hid (l01Draw_any w0 W1 b s1 hB1)
    clear s1
    go_wp2_with fail
    refine C2.out.mono ?_
    rintro e W2 ⟨x, rfl, hx, s2, g2⟩
    clear C2
    have hB2 := below_src hB1 HB0 g2
    have G2 := grown_trans G1 g2
    clear hB1 g2 G1
    have C3 := Lib.hid (l01Next_i w0 W2 b ((x.size : Int) + 1) s2 hB2 (by omega) (by omega))
    clear s2
    go_wp2_with fail
    refine C3.out.mono ?_
    rintro e W3 ⟨n, rfl, n0, n1, s3, g3⟩
    clear C3
    have hB3 := below_src hB2 HB0 g3
    have G3 := grown_trans G2 g3
    clear hB2 g3 G2
    obtain ⟨m, rfl⟩ := Int.eq_ofNat_of_zero_le n0
    have hsl := fun W => slice_to x (m : Int) m rfl (by omega) W
    have hes : (x.extract 0 m).size ≤ 300 := by rw [ByteArray.size_extract]; omega
    generalize x.extract 0 m = y at hsl hes
    go_wp2_with fail
    go_quiet (fail)
    go_wp2_with fail
    go_ret2
    exact ⟨x, y, rfl, by omega, hes, s3.below ((Below.refl _ _).drewN _), grown_drewN G3 _⟩
  · have htf : (t == 0) = false := beq_eq_false_iff_ne.2 ht
    have C2 := Lib.hid (l01Next_i w0 W1 b 3 s1 hB1 (by omega) (by omega))
    clear s1
    go_wp2_with fail
    refine C2.out.mono ?_
    rintro e W2 ⟨a, rfl, a0, a1, s2, g2⟩
    clear C2
    have hB2 := below_src hB1 HB0 g2
    have G2 := grown_trans G1 g2
    clear hB1 g2 G1
    have C3 := Lib.hid (l01DrawOf_any w0 W2 b (1 + a) 2 s2 hB2 (by omega) (by omega) (by omega) (by omega))
    clear s2
    go_wp2_with fail
    refine C3.out.mono ?_
    rintro e W3 ⟨u1, rfl, hu1, s3, g3⟩
    clear C3
    have hB3 := below_src hB2 HB0 g3
    have G3 := grown_trans G2 g3
    clear hB2 g3 G2
    have hu1s : 1 ≤ u1.size ∧ u1.size ≤ 3 := by omega
    clear hu1 a0 a1
    have C4 := Lib.hid (l01Next_i w0 W3 b 2 s3 hB3 (by omega) (by omega))
    clear s3
    go_wp2_with fail
    refine C4.out.mono ?_
    rintro e W4 ⟨c, rfl, c0, c1, s4, g4⟩
    clear C4
    have hB4 := below_src hB3 HB0 g4
    have G4 := grown_trans G3 g4
    clear hB3 g4 G3
    have C5 := Lib.hid (l01DrawOf_any w0 W4 b (c) 2 s4 hB4 (by omega) (by omega) (by omega) (by omega))
    clear s4
    go_wp2_with fail
    refine C5.out.mono ?_
    rintro e W5 ⟨u2, rfl, hu2, s5, g5⟩
    clear C5
    have hB5 := below_src hB4 HB0 g5
    have G5 := grown_trans G4 g5
    clear hB4 g5 G4
    have hu2s : u2.size ≤ 1 := by omega
    clear hu2 c0 c1
    have hsumu3 : ∀ W, (Op.stringOp .add u1 u2).run Tryz.prog W = .ok (.string (u1 ++ u2)) W := fun W => run_string_add_sum W u1 u2 (by omega)
    have hu3 : (u1 ++ u2).size = u1.size + u2.size := ByteArray.size_append
    generalize hcatu3 : u1 ++ u2 = u3 at *
    clear hcatu3
    have hsumu : ∀ W, (Op.stringOp .add u3 u1).run Tryz.prog W = .ok (.string (u3 ++ u1)) W := fun W => run_string_add_sum W u3 u1 (by omega)
    have hu : (u3 ++ u1).size = u3.size + u1.size := ByteArray.size_append
    generalize hcatu : u3 ++ u1 = u at *
    clear hcatu
    have hus : 2 ≤ u.size ∧ u.size ≤ 7 := by omega
    clear hu hu3
    have CE := Lib.hid (l09Ends_any u (by omega) W5)
    have hbl := s5.lt
    go_wp2_with fail
    refine CE.out.mono ?_
    rintro e V ⟨v, L, rfl, hown, hL, hpos, hlen, bE⟩
    have sV := s5.below bE
    have GV := grown_trans G5 (grown_of_below bE (some b))
    have hBV := hB5.then bE
    have hln := hpos (by omega)
    obtain ⟨q, cp, rfl, hqB, hql, hcp, hvm, hvc, _⟩ := hown.row hln
    have hqb : q ≠ b := by omega
    have HVC := Lib.hid hvc
    have HLL := Lib.hid hL
    clear CE s5 hB5 G5 hown hvc hL bE hpos hbl
    obtain ⟨W6, rfl⟩ : ∃ U, U = V := ⟨_, rfl⟩
    have s6 := sV
    have hB6 := hBV
    have G6 := GV
    clear sV hBV GV
    have HE := Lib.hid (show ∀ j (hj : j < L.length), W6.cell? ⟨q, j, none⟩ = some (.int .i64 (L[j]'hj)) from HVC.out)
    have hqE : q < W6.heap.size := hql
    have gE := grown_refl W6 (some b)
    have C6 := Lib.hid (l01Next_i w0 W6 b 6 s6 hB6 (by omega) (by omega))
    clear s6
    go_wp2_with fail
    refine C6.out.mono ?_
    rintro e W7 ⟨k6, rfl, k60, k61, s7, g7⟩
    have gE2 := grown_trans gE g7
    clear C6 gE
    have hB7 := below_src hB6 HB0 g7
    have G7 := grown_trans G6 g7
    clear hB6 g7 G6
    obtain ⟨K, rfl⟩ := Int.eq_ofNat_of_zero_le k60
    have hK : K ≤ 5 := by omega
    clear k60 k61
    go_wp2_with fail
    go_loopw [7, 9] (fun s7 s9 wr => ∃ (k : Nat) (x : ByteArray), k ≤ 5 ∧ s9 = .int .i64 (k : Int) ∧ s7 = .string x ∧ u.size ≤ x.size ∧ x.size ≤ 60 ∧ Src w0 wr b ∧ W6.grownBy wr (some b) ∧ W0.grownBy wr (some b) ∧ Below w0.heap.size w0 wr) (fun _ s9 _ => (intOf s9).toNat)
    case atStart => exact ⟨K, u, hK, rfl, rfl, Nat.le_refl _, by omega, s7, gE2, G7, hB7⟩
    case round =>
      clear s7 gE2 G7 hB7 hK
      obtain ⟨k, x, hk, rfl, rfl, hxu, hx60, hS, gE, hG, hB⟩ := hrel
      by_cases hk0 : 0 < k
      · have hki : (k : Int) > 0 := by omega
        by_cases hx48 : x.size < 48
        · have hxi : (x.size : Int) < 48 := by omega
          have C7 := Lib.hid (l01Next_i w0 wr b L.length hS hB (by omega) (by omega))
          clear hS
          go_wp2_with fail
          refine C7.out.mono ?_
          rintro e W8 ⟨r, rfl, r0, r1, s8, g8⟩
          have hB8 := below_src hB HB0 g8
          have gE8 := grown_trans gE g8
          have hG8 := grown_trans hG g8
          clear C7 g8 hB gE hG
          obtain ⟨m, rfl⟩ := Int.eq_ofNat_of_zero_le r0
          have hm : m < L.length := by omega
          have k1 : W8.cell? ⟨q, m, none⟩ = some (.int .i64 (L[m]'hm)) := by rw [grown_cell gE8 (p := ⟨q, m, none⟩) hqE (fun e => hqb (Option.some.inj e))]; exact HE.out m hm
          obtain ⟨z0, z1⟩ := HLL.out _ (List.getElem_mem hm)
          generalize L[m]'hm = z at k1 z0 z1
          obtain ⟨d, rfl⟩ := Int.eq_ofNat_of_zero_le z0
          have hsl := fun W => slice_from u (d : Int) d rfl (by omega) W
          have hzs : (u.extract d u.size).size ≤ 7 := by rw [ByteArray.size_extract]; omega
          generalize u.extract d u.size = u5 at hsl hzs
          have hmc : m < cp := by omega
          have hsumx5 : ∀ W, (Op.stringOp .add x u5).run Tryz.prog W = .ok (.string (x ++ u5)) W := fun W => run_string_add_sum W x u5 (by omega)
          have hx5 : (x ++ u5).size = x.size + u5.size := ByteArray.size_append
          generalize hcatx5 : x ++ u5 = x5 at *
          clear hcatx5
          go_wp2_with fail
          go_roundw
          case rel => exact ⟨k - 1, x5, by omega, by go_num, rfl, by omega, by omega, s8, gE8, hG8, hB8⟩
          case measure => simp [intOf]; omega
        · have hxi : ¬ (x.size : Int) < 48 := by omega
          obtain ⟨W50, rfl⟩ : ∃ U, U = wr := ⟨_, rfl⟩
          have s50 := hS
          have hB50 := hB
          have G50 := hG
          clear hS hB hG gE HE HVC HLL
          have C51 := Lib.hid (l01Next_i w0 W50 b 4 s50 hB50 (by omega) (by omega))
          clear s50
          go_wp2_with fail
          refine C51.out.mono ?_
          rintro e W51 ⟨y, rfl, y0, y1, s51, g51⟩
          clear C51
          have hB51 := below_src hB50 HB0 g51
          have G51 := grown_trans G50 g51
          clear hB50 g51 G50
          by_cases hy0 : y = 0
          · subst hy0
            have C52 := Lib.hid (l01Next_i w0 W51 b (u.size : Int) s51 hB51 (by omega) (by omega))
            clear s51
            go_wp2_with fail
            refine C52.out.mono ?_
            rintro e W52 ⟨n1, rfl, n10, n11, s52, g52⟩
            clear C52
            have hB52 := below_src hB51 HB0 g52
            have G52 := grown_trans G51 g52
            clear hB51 g52 G51
            obtain ⟨m1, rfl⟩ := Int.eq_ofNat_of_zero_le n10
            have hsl1 := fun W => slice_from x (m1 : Int) m1 rfl (by omega) W
            have hz1 : (x.extract m1 x.size).size = x.size - m1 := by rw [ByteArray.size_extract]; omega
            generalize x.extract m1 x.size = x1 at hsl1 hz1
            have hz1a : x1.size ≤ 60 := by omega
            clear hz1
            have C53 := Lib.hid (l01Next_i w0 W52 b 4 s52 hB52 (by omega) (by omega))
            clear s52
            go_wp2_with fail
            refine C53.out.mono ?_
            rintro e W53 ⟨n2, rfl, n20, n21, s53, g53⟩
            clear C53
            have hB53 := below_src hB52 HB0 g53
            have G53 := grown_trans G52 g53
            clear hB52 g53 G52
            obtain ⟨m2, rfl⟩ := Int.eq_ofNat_of_zero_le n20
            have hz2 : (x1.extract 0 (x1.size - m2)).size ≤ 60 := by rw [ByteArray.size_extract]; omega
            go_wp2_with fail
            all_goals go_ret2
            all_goals exact ⟨_, u, rfl, by first | omega | (rw [ByteArray.size_extract]; omega), by omega, s53, G53⟩
          · by_cases hy1 : y = 1
            · subst hy1
              by_cases hx2 : 2 < x.size
              · have hx2i : (x.size : Int) > 2 := by omega
                have C52 := Lib.hid (l01Next_i w0 W51 b 2 s51 hB51 (by omega) (by omega))
                clear s51
                go_wp2_with fail
                refine C52.out.mono ?_
                rintro e W52 ⟨z, rfl, z0, z1, s52, g52⟩
                clear C52
                have hB52 := below_src hB51 HB0 g52
                have G52 := grown_trans G51 g52
                clear hB51 g52 G51
                by_cases hz : z = 0
                · subst hz
                  have hsl := fun W => slice_to x ((x.size : Int) - 1) (x.size - 1) (by omega) (by omega) W
                  have hzs : (x.extract 0 (x.size - 1)).size = x.size - 1 := by rw [ByteArray.size_extract]; omega
                  generalize x.extract 0 (x.size - 1) = x1 at hsl hzs
                  have hzsa : x1.size ≤ 60 := by omega
                  clear hzs
                  have hwr : wrap64 ((x.size : Int) - 1) = (x.size : Int) - 1 := by unfold wrap64; omega
                  have hwr2 : IntKind.i64.wrap ((x.size : Int) - 1) = (x.size : Int) - 1 := IntWalk.i64_in _ (by omega)
                  have hsb0 : (0 : Int) ≤ (x.size : Int) - 1 := by omega
                  have hsb1 : (x.size : Int) - 1 ≤ (x.size : Int) := by omega
                  have hmo : Tryz.prog.follows .mixedOrders = true := by kernel_rfl
                  go_wp2_with fail
                  go_region_with (first | (go_at_call 115; refine (l01Next_i w0 _ b 3 (by first | exact s52 | exact s52.below (Below.refl _ _).drew) (by first | exact hB52 | exact hB52.drew) (by omega) (by omega)).mono ?_; rintro e V6 ⟨c, rfl, c0, c1, sv6, gv6⟩) | (go_at_call 119; refine (l01Letter_any c _ c0 (by omega)).mono ?_; rintro e V7 ⟨rfl, bv7⟩; have hsum : ∀ W, (Op.stringOp .add x1 ⟨#[letB c]⟩).run Tryz.prog W = .ok (.string (x1 ++ ⟨#[letB c]⟩)) W := (fun W => run_string_add_sum W x1 ⟨#[letB c]⟩ (by show x1.size + 1 ≤ _; omega))))
                  all_goals
                    have gw : W0.grownBy V6 (some b) := grown_trans (by first | exact G52 | exact ⟨G52.os, G52.tape, G52.output, G52.size, G52.block⟩) gv6
                    have sv7 := sv6.below bv7
                    have gw7 := grown_trans gw (grown_of_below bv7 (some b))
                    have y5 : (x1 ++ (⟨#[letB c]⟩ : ByteArray)).size = x1.size + 1 := ByteArray.size_append ..
                    generalize x1 ++ (⟨#[letB c]⟩ : ByteArray) = x6 at *
                    clear hsum
                    go_wp2_with fail
                    go_ret2
                    exact ⟨x6, u, rfl, by omega, by omega, sv7, gw7⟩
                · have hzf : (z == 0) = false := beq_eq_false_iff_ne.2 hz
                  go_wp2_with fail
                  all_goals go_ret2
                  all_goals exact ⟨x, u, rfl, by first | omega | (rw [ByteArray.size_extract]; omega), by omega, s52, G52⟩
              · have hx2i : ¬ (x.size : Int) > 2 := by omega
                go_wp2_with fail
                all_goals go_ret2
                all_goals exact ⟨x, u, rfl, by first | omega | (rw [ByteArray.size_extract]; omega), by omega, s51, G51⟩
            · have hyf0 : (y == 0) = false := beq_eq_false_iff_ne.2 hy0
              have hyf1 : (y == 1) = false := beq_eq_false_iff_ne.2 hy1
              go_wp2_with fail
              all_goals go_ret2
              all_goals exact ⟨x, u, rfl, by first | omega | (rw [ByteArray.size_extract]; omega), by omega, s51, G51⟩
      · obtain rfl : k = 0 := by omega
        obtain ⟨W50, rfl⟩ : ∃ U, U = wr := ⟨_, rfl⟩
        have s50 := hS
        have hB50 := hB
        have G50 := hG
        clear hS hB hG gE HE HVC HLL
        have C51 := Lib.hid (l01Next_i w0 W50 b 4 s50 hB50 (by omega) (by omega))
        clear s50
        go_wp2_with fail
        refine C51.out.mono ?_
        rintro e W51 ⟨y, rfl, y0, y1, s51, g51⟩
        clear C51
        have hB51 := below_src hB50 HB0 g51
        have G51 := grown_trans G50 g51
        clear hB50 g51 G50
        by_cases hy0 : y = 0
        · subst hy0
          have C52 := Lib.hid (l01Next_i w0 W51 b (u.size : Int) s51 hB51 (by omega) (by omega))
          clear s51
          go_wp2_with fail
          refine C52.out.mono ?_
          rintro e W52 ⟨n1, rfl, n10, n11, s52, g52⟩
          clear C52
          have hB52 := below_src hB51 HB0 g52
          have G52 := grown_trans G51 g52
          clear hB51 g52 G51
          obtain ⟨m1, rfl⟩ := Int.eq_ofNat_of_zero_le n10
          have hsl1 := fun W => slice_from x (m1 : Int) m1 rfl (by omega) W
          have hz1 : (x.extract m1 x.size).size = x.size - m1 := by rw [ByteArray.size_extract]; omega
          generalize x.extract m1 x.size = x1 at hsl1 hz1
          have hz1a : x1.size ≤ 60 := by omega
          clear hz1
          have C53 := Lib.hid (l01Next_i w0 W52 b 4 s52 hB52 (by omega) (by omega))
          clear s52
          go_wp2_with fail
          refine C53.out.mono ?_
          rintro e W53 ⟨n2, rfl, n20, n21, s53, g53⟩
          clear C53
          have hB53 := below_src hB52 HB0 g53
          have G53 := grown_trans G52 g53
          clear hB52 g53 G52
          obtain ⟨m2, rfl⟩ := Int.eq_ofNat_of_zero_le n20
          have hz2 : (x1.extract 0 (x1.size - m2)).size ≤ 60 := by rw [ByteArray.size_extract]; omega
          go_wp2_with fail
          all_goals go_ret2
          all_goals exact ⟨_, u, rfl, by first | omega | (rw [ByteArray.size_extract]; omega), by omega, s53, G53⟩
        · by_cases hy1 : y = 1
          · subst hy1
            by_cases hx2 : 2 < x.size
            · have hx2i : (x.size : Int) > 2 := by omega
              have C52 := Lib.hid (l01Next_i w0 W51 b 2 s51 hB51 (by omega) (by omega))
              clear s51
              go_wp2_with fail
              refine C52.out.mono ?_
              rintro e W52 ⟨z, rfl, z0, z1, s52, g52⟩
              clear C52
              have hB52 := below_src hB51 HB0 g52
              have G52 := grown_trans G51 g52
              clear hB51 g52 G51
              by_cases hz : z = 0
              · subst hz
                have hsl := fun W => slice_to x ((x.size : Int) - 1) (x.size - 1) (by omega) (by omega) W
                have hzs : (x.extract 0 (x.size - 1)).size = x.size - 1 := by rw [ByteArray.size_extract]; omega
                generalize x.extract 0 (x.size - 1) = x1 at hsl hzs
                have hzsa : x1.size ≤ 60 := by omega
                clear hzs
                have hwr : wrap64 ((x.size : Int) - 1) = (x.size : Int) - 1 := by unfold wrap64; omega
                have hwr2 : IntKind.i64.wrap ((x.size : Int) - 1) = (x.size : Int) - 1 := IntWalk.i64_in _ (by omega)
                have hsb0 : (0 : Int) ≤ (x.size : Int) - 1 := by omega
                have hsb1 : (x.size : Int) - 1 ≤ (x.size : Int) := by omega
                have hmo : Tryz.prog.follows .mixedOrders = true := by kernel_rfl
                go_wp2_with fail
                go_region_with (first | (go_at_call 115; refine (l01Next_i w0 _ b 3 (by first | exact s52 | exact s52.below (Below.refl _ _).drew) (by first | exact hB52 | exact hB52.drew) (by omega) (by omega)).mono ?_; rintro e V6 ⟨c, rfl, c0, c1, sv6, gv6⟩) | (go_at_call 119; refine (l01Letter_any c _ c0 (by omega)).mono ?_; rintro e V7 ⟨rfl, bv7⟩; have hsum : ∀ W, (Op.stringOp .add x1 ⟨#[letB c]⟩).run Tryz.prog W = .ok (.string (x1 ++ ⟨#[letB c]⟩)) W := (fun W => run_string_add_sum W x1 ⟨#[letB c]⟩ (by show x1.size + 1 ≤ _; omega))))
                all_goals
                  have gw : W0.grownBy V6 (some b) := grown_trans (by first | exact G52 | exact ⟨G52.os, G52.tape, G52.output, G52.size, G52.block⟩) gv6
                  have sv7 := sv6.below bv7
                  have gw7 := grown_trans gw (grown_of_below bv7 (some b))
                  have y5 : (x1 ++ (⟨#[letB c]⟩ : ByteArray)).size = x1.size + 1 := ByteArray.size_append ..
                  generalize x1 ++ (⟨#[letB c]⟩ : ByteArray) = x6 at *
                  clear hsum
                  go_wp2_with fail
                  go_ret2
                  exact ⟨x6, u, rfl, by omega, by omega, sv7, gw7⟩
              · have hzf : (z == 0) = false := beq_eq_false_iff_ne.2 hz
                go_wp2_with fail
                all_goals go_ret2
                all_goals exact ⟨x, u, rfl, by first | omega | (rw [ByteArray.size_extract]; omega), by omega, s52, G52⟩
            · have hx2i : ¬ (x.size : Int) > 2 := by omega
              go_wp2_with fail
              all_goals go_ret2
              all_goals exact ⟨x, u, rfl, by first | omega | (rw [ByteArray.size_extract]; omega), by omega, s51, G51⟩
          · have hyf0 : (y == 0) = false := beq_eq_false_iff_ne.2 hy0
            have hyf1 : (y == 1) = false := beq_eq_false_iff_ne.2 hy1
            go_wp2_with fail
            all_goals go_ret2
            all_goals exact ⟨x, u, rfl, by first | omega | (rw [ByteArray.size_extract]; omega), by omega, s51, G51⟩

end Go.Proofs.YtfipbnognjepkaaGreatDoor

/-! ### Draw09B -/
namespace Go.Proofs.YtfipbnognjepkaaGreatDoor
set_option linter.unusedVariables false
set_option linter.unusedSimpArgs false
open Go.RowKit

def TwoT9 (w : World) (e : Ending) (w' : World) : Prop := ∃ x y : ByteArray, e = .returned (.tuple #[.string x, .string y]) ∧ x.size ≤ 1000 ∧ y.size ≤ 1000 ∧ Below w.heap.size w w'
def OneT9 (w : World) (e : Ending) (w' : World) : Prop := ∃ x : ByteArray, e = .returned (.string x) ∧ x.size ≤ 1000 ∧ Below w.heap.size w w'
def TextL9 (w : World) (e : Ending) (w' : World) : Prop := ∃ (x : ByteArray) (v : Value) (L : List Int), e = .returned (.tuple #[.string x, v]) ∧ x.size ≤ 1000 ∧ OwnI w' w.heap.size v L ∧ L.length ≤ 100 ∧ Below w.heap.size w w'
theorem Src.grownO {w0 W W' : World} {b : Nat} {r : Option Nat} (h : Src w0 W b) (k : W.grownBy W' r) (hr : some b ≠ r) : Src w0 W' b := by
  have hl := h.lt
  obtain ⟨a, len, cap, zs, p, q, hb, t⟩ := h
  exact ⟨a, len, cap, zs, p, q, by rw [k.block b hl hr]; exact hb, t⟩
theorem OwnI.grownO {W W' : World} {B b : Nat} {v : Value} {L : List Int} (h : OwnI W B v L) (k : W.grownBy W' (some b)) (hb : b < B) : OwnI W' B v L := by
  refine World.ownsRow.kept h k ?_
  cases hv : v.ownBlock with
  | none => exact .inl rfl
  | some q => exact .inr (fun e => by have := (OwnI.lt h q hv).1; injection e with e; omega)

set_option maxRecDepth 100000 in
set_option maxHeartbeats 2000000 in
theorem l09With_any (a : Option Addr) (len cap : Nat) (zs : List Int) (w : World) (h : IsRow .u8 w a len cap zs) (hl : len ≤ 1048576) :
    Calls Tryz.prog 110 #[.slice a len cap] w (TwoT9 w) := by
  have CF := Lib.hid (l01From_any a len cap zs w h hl)
  clear h
  go_enter Tryz.func110, Tryz.ntmps110
  go_wp2_with fail
  refine CF.out.mono ?_
  rintro e W0 ⟨rfl, s0, hB0⟩
  have HB0 := s0.ge
  clear CF
  have C1 := Lib.hid (l09Draw_any w W0 w.heap.size s0 hB0)
  clear s0
  go_wp2_with fail
  refine C1.out.mono ?_
  rintro e W1 ⟨x, y, rfl, hx, hy, s1, g1⟩
  have hB1 := below_src hB0 HB0 g1
  clear C1 hB0 g1
  have C2 := Lib.hid (l01Next_i w W1 w.heap.size 20 s1 hB1 (by omega) (by omega))
  clear s1
  go_wp2_with fail
  refine C2.out.mono ?_
  rintro e W2 ⟨t, rfl, t0, t1, s2, g2⟩
  have hB2 := below_src hB1 HB0 g2
  clear C2 hB1 g2
  by_cases ht : t = 0
  · subst ht
    have C3 := Lib.hid (l01Bad_any w W2 w.heap.size x s2 hB2 (by first | omega | decide))
    clear s2
    go_wp2_with fail
    refine C3.out.mono ?_
    rintro e W3 ⟨xb, rfl, hxb, s3, g3⟩
    have hB3 := below_src hB2 HB0 g3
    clear C3 hB2 g3
    have hxb9 : xb.size ≤ 1000 := by first | omega | (have h00 : (⟨#[]⟩ : ByteArray).size = 0 := rfl; omega)
    have C4 := Lib.hid (l01Bad_any w W3 w.heap.size ⟨#[]⟩ s3 hB3 (by first | omega | decide))
    clear s3
    go_wp2_with fail
    refine C4.out.mono ?_
    rintro e W4 ⟨yb, rfl, hyb, s4, g4⟩
    have hB4 := below_src hB3 HB0 g4
    clear C4 hB3 g4
    have hyb9 : yb.size ≤ 1000 := by first | omega | (have h00 : (⟨#[]⟩ : ByteArray).size = 0 := rfl; omega)
    go_wp2_with fail
    go_ret2
    exact ⟨xb, yb, rfl, hxb9, hyb9, hB4⟩
  · have htf : (t == 0) = false := beq_eq_false_iff_ne.2 ht
    have C3 := Lib.hid (l01Bad_any w W2 w.heap.size x s2 hB2 (by first | omega | decide))
    clear s2
    go_wp2_with fail
    refine C3.out.mono ?_
    rintro e W3 ⟨xb, rfl, hxb, s3, g3⟩
    have hB3 := below_src hB2 HB0 g3
    clear C3 hB2 g3
    have hxb9 : xb.size ≤ 1000 := by first | omega | (have h00 : (⟨#[]⟩ : ByteArray).size = 0 := rfl; omega)
    have C4 := Lib.hid (l01Bad_any w W3 w.heap.size y s3 hB3 (by first | omega | decide))
    clear s3
    go_wp2_with fail
    refine C4.out.mono ?_
    rintro e W4 ⟨yb, rfl, hyb, s4, g4⟩
    have hB4 := below_src hB3 HB0 g4
    clear C4 hB3 g4
    have hyb9 : yb.size ≤ 1000 := by first | omega | (have h00 : (⟨#[]⟩ : ByteArray).size = 0 := rfl; omega)
    go_wp2_with fail
    go_ret2
    exact ⟨xb, yb, rfl, hxb9, hyb9, hB4⟩

set_option maxRecDepth 100000 in
theorem l09One_any (a : Option Addr) (len cap : Nat) (zs : List Int) (w : World) (h : IsRow .u8 w a len cap zs) (hl : len ≤ 1048576) :
    Calls Tryz.prog 78 #[.slice a len cap] w (OneT9 w) := by
  have CF := Lib.hid (l09With_any a len cap zs w h hl)
  clear h
  go_enter Tryz.func78, Tryz.ntmps78
  go_wp2_with fail
  refine CF.out.mono ?_
  rintro e W0 ⟨x, y, rfl, hx, hy, hB⟩
  go_wp2_with fail
  go_ret
  exact ⟨x, rfl, hx, hB⟩

end Go.Proofs.YtfipbnognjepkaaGreatDoor

/-! ### Draw09C -/
namespace Go.Proofs.YtfipbnognjepkaaGreatDoor
set_option linter.unusedVariables false
set_option linter.unusedSimpArgs false
open Go.RowKit

def TextI9 (w : World) (e : Ending) (w' : World) : Prop := ∃ (x : ByteArray) (k : Int), e = .returned (.tuple #[.string x, .int .i64 k]) ∧ x.size ≤ 1000 ∧ (Lit.int .i64 k).wf = true ∧ Below w.heap.size w w'
def ThreeT9 (w : World) (e : Ending) (w' : World) : Prop := ∃ x y z : ByteArray, e = .returned (.tuple #[.string x, .string y, .string z]) ∧ x.size ≤ 1000 ∧ y.size ≤ 1000 ∧ z.size ≤ 1000 ∧ Below w.heap.size w w'
theorem wf_near9 {k : Int} (h0 : -4611686018427387904 ≤ k) (h1 : k ≤ 1099511627776) : (Lit.int .i64 k).wf = true := by
  simp [Lit.wf, IntKind.min, IntKind.max, IntKind.signed, IntKind.bits]
  omega

set_option maxRecDepth 100000 in
theorem DrawLeastSeed_any (a : Option Addr) (len cap : Nat) (zs : List Int) (w : World) (h : IsRow .u8 w a len cap zs) (hl : len ≤ 1048576) :
    Calls Tryz.prog 24 #[.slice a len cap] w (OneT9 w) := by
  have CF := Lib.hid (l09One_any a len cap zs w h hl)
  clear h
  go_enter Tryz.func24, Tryz.ntmps24
  go_wp2_with fail
  refine CF.out.mono ?_
  rintro e W0 ⟨x, rfl, hx, hB⟩
  go_wp2_with fail
  go_ret
  exact ⟨x, rfl, hx, hB⟩

set_option maxRecDepth 100000 in
theorem DrawBestBorder_any (a : Option Addr) (len cap : Nat) (zs : List Int) (w : World) (h : IsRow .u8 w a len cap zs) (hl : len ≤ 1048576) :
    Calls Tryz.prog 30 #[.slice a len cap] w (OneT9 w) := by
  have CF := Lib.hid (l09One_any a len cap zs w h hl)
  clear h
  go_enter Tryz.func30, Tryz.ntmps30
  go_wp2_with fail
  refine CF.out.mono ?_
  rintro e W0 ⟨x, rfl, hx, hB⟩
  go_wp2_with fail
  go_ret
  exact ⟨x, rfl, hx, hB⟩

set_option maxRecDepth 100000 in
theorem DrawIsSeed_any (a : Option Addr) (len cap : Nat) (zs : List Int) (w : World) (h : IsRow .u8 w a len cap zs) (hl : len ≤ 1048576) :
    Calls Tryz.prog 41 #[.slice a len cap] w (TwoT9 w) := by
  have CF := Lib.hid (l09With_any a len cap zs w h hl)
  clear h
  go_enter Tryz.func41, Tryz.ntmps41
  go_wp2_with fail
  refine CF.out.mono ?_
  rintro e W0 ⟨x, y, rfl, hx, hy, hB⟩
  go_wp2_with fail
  go_ret2
  exact ⟨x, y, rfl, hx, hy, hB⟩

set_option maxRecDepth 100000 in
set_option maxHeartbeats 1000000 in
theorem DrawSeedsOf_any (a : Option Addr) (len cap : Nat) (zs : List Int) (w : World) (h : IsRow .u8 w a len cap zs) (hl : len ≤ 1048576) :
    Calls Tryz.prog 43 #[.slice a len cap] w (TextI9 w) := by
  have C1 := Lib.hid (l09One_any a len cap zs w h hl)
  have CF := Lib.hid (fun (w' : World) (b : Below w.heap.size w w') => l01From_any a len cap zs w' (h.below b) hl)
  clear h
  go_enter Tryz.func43, Tryz.ntmps43
  go_wp2_with fail
  refine C1.out.mono ?_
  rintro e V ⟨x, rfl, hx, hV⟩
  have CG := Lib.hid (CF.out V hV)
  clear CF C1
  go_wp2_with fail
  refine CG.out.mono ?_
  rintro e W0 ⟨rfl, s0, hB0⟩
  have HB0 := s0.ge
  have hl0 := s0.lt
  clear CG
  go_wp2_with fail
  refine (l01Pick_any V _ V.heap.size _ ([1, 2, 3, 3, 4, 5, 6, 7, 60, 0, 61] : List Int) (s0.below (Below.new _ _)) (hB0.alloc hB0.size _) (by simp) (by omega) (by decide) (by decide) (cells_new_ints W0 [1, 2, 3, 3, 4, 5, 6, 7, 60, 0, 61] _)).mono ?_
  rintro e W1 ⟨z, rfl, hz, s1, g1⟩
  have hz2 : 0 ≤ z ∧ z ≤ 61 := by simp at hz; omega
  have hB1 := below_src (hB0.alloc hB0.size _) HB0 g1
  clear hz s0 hB0 g1 hl0
  go_wp2_with fail
  go_ret2
  exact ⟨x, z, rfl, hx, wf_near9 (by omega) (by omega), hV.then hB1⟩

set_option maxRecDepth 100000 in
set_option maxHeartbeats 1000000 in
theorem DrawFirstTwo_any (a : Option Addr) (len cap : Nat) (zs : List Int) (w : World) (h : IsRow .u8 w a len cap zs) (hl : len ≤ 1048576) :
    Calls Tryz.prog 36 #[.slice a len cap] w (TextI9 w) := by
  have C1 := Lib.hid (l09One_any a len cap zs w h hl)
  have CF := Lib.hid (fun (w' : World) (b : Below w.heap.size w w') => l01From_any a len cap zs w' (h.below b) hl)
  clear h
  go_enter Tryz.func36, Tryz.ntmps36
  go_wp2_with fail
  refine C1.out.mono ?_
  rintro e V ⟨x, rfl, hx, hV⟩
  have CG := Lib.hid (CF.out V hV)
  clear CF C1
  go_wp2_with fail
  refine CG.out.mono ?_
  rintro e W0 ⟨rfl, s0, hB0⟩
  have HB0 := s0.ge
  have hl0 := s0.lt
  clear CG
  go_wp2_with fail
  refine (l01Pick_any V _ V.heap.size _ ([1, 1, 2, 2, 3, 4, 5, 60, 0, 61] : List Int) (s0.below (Below.new _ _)) (hB0.alloc hB0.size _) (by simp) (by omega) (by decide) (by decide) (cells_new_ints W0 [1, 1, 2, 2, 3, 4, 5, 60, 0, 61] _)).mono ?_
  rintro e W1 ⟨z, rfl, hz, s1, g1⟩
  have hz2 : 0 ≤ z ∧ z ≤ 61 := by simp at hz; omega
  have hB1 := below_src (hB0.alloc hB0.size _) HB0 g1
  clear hz s0 hB0 g1 hl0
  go_wp2_with fail
  go_ret2
  exact ⟨x, z, rfl, hx, wf_near9 (by omega) (by omega), hV.then hB1⟩

set_option maxRecDepth 100000 in
set_option maxHeartbeats 4000000 in
theorem DrawCoveredByTwo_any (a : Option Addr) (len cap : Nat) (zs : List Int) (w : World) (h : IsRow .u8 w a len cap zs) (hl : len ≤ 1048576) :
    Calls Tryz.prog 45 #[.slice a len cap] w (ThreeT9 w) := by
  have CF := Lib.hid (l01From_any a len cap zs w h hl)
  clear h
  go_enter Tryz.func45, Tryz.ntmps45
  go_wp2_with fail
  refine CF.out.mono ?_
  rintro e W0 ⟨rfl, s0, hB0⟩
  have HB0 := s0.ge
  clear CF
  have C1 := Lib.hid (l09Draw_any w W0 w.heap.size s0 hB0)
  clear s0
  go_wp2_with fail
  refine C1.out.mono ?_
  rintro e W1 ⟨x, y, rfl, hx, hy, s1, g1⟩
  have hB1 := below_src hB0 HB0 g1
  clear C1 hB0 g1
  have C2 := Lib.hid (l01Next_i w W1 w.heap.size 3 s1 hB1 (by omega) (by omega))
  clear s1
  go_wp2_with fail
  refine C2.out.mono ?_
  rintro e W2 ⟨t, rfl, t0, t1, s2, g2⟩
  have hB2 := below_src hB1 HB0 g2
  clear C2 hB1 g2
  have C3 := Lib.hid (l01DrawOf_any w W2 w.heap.size (1 + t) 2 s2 hB2 (by omega) (by omega) (by omega) (by omega))
  clear s2
  go_wp2_with fail
  refine C3.out.mono ?_
  rintro e W3 ⟨v, rfl, hv, s3, g3⟩
  have hB3 := below_src hB2 HB0 g3
  clear C3 hB2 g3
  have hvs : v.size ≤ 3 := by omega
  clear hv t0 t1
  by_cases h3 : 3 < x.size
  · have h3i : (x.size : Int) > 3 := by omega
    have C4 := Lib.hid (l01Next_i w W3 w.heap.size 2 s3 hB3 (by omega) (by omega))
    clear s3
    go_wp2_with fail
    refine C4.out.mono ?_
    rintro e W4 ⟨r, rfl, r0, r1, s4, g4⟩
    have hB4 := below_src hB3 HB0 g4
    clear C4 hB3 g4
    by_cases hr : r = 0
    · subst hr
      have hsl := fun W => slice_from x ((x.size : Int) - 2) (x.size - 2) (by omega) (by omega) W
      have hzs : (x.extract (x.size - 2) x.size).size ≤ 2 := by rw [ByteArray.size_extract]; omega
      generalize x.extract (x.size - 2) x.size = v2 at hsl hzs
      have C5 := Lib.hid (l01Bad_any w W4 w.heap.size x s4 hB4 (by first | omega | decide))
      clear s4
      go_wp2_with fail
      refine C5.out.mono ?_
      rintro e W5 ⟨xb, rfl, hxb, s5, g5⟩
      have hB5 := below_src hB4 HB0 g5
      clear C5 hB4 g5
      have hxb9 : xb.size ≤ 1000 := by first | omega | (have h00 : (⟨#[]⟩ : ByteArray).size = 0 := rfl; omega)
      have C6 := Lib.hid (l01Bad_any w W5 w.heap.size y s5 hB5 (by first | omega | decide))
      clear s5
      go_wp2_with fail
      refine C6.out.mono ?_
      rintro e W6 ⟨yb, rfl, hyb, s6, g6⟩
      have hB6 := below_src hB5 HB0 g6
      clear C6 hB5 g6
      have hyb9 : yb.size ≤ 1000 := by first | omega | (have h00 : (⟨#[]⟩ : ByteArray).size = 0 := rfl; omega)
      have C7 := Lib.hid (l01Bad_any w W6 w.heap.size v2 s6 hB6 (by first | omega | decide))
      clear s6
      go_wp2_with fail
      refine C7.out.mono ?_
      rintro e W7 ⟨vb, rfl, hvb, s7, g7⟩
      have hB7 := below_src hB6 HB0 g7
      clear C7 hB6 g7
      have hvb9 : vb.size ≤ 1000 := by first | omega | (have h00 : (⟨#[]⟩ : ByteArray).size = 0 := rfl; omega)
      go_wp2_with fail
      go_ret3
      exact ⟨xb, yb, vb, rfl, hxb9, hyb9, hvb9, hB7⟩
    · have hrf : (r == 0) = false := beq_eq_false_iff_ne.2 hr
      have C5 := Lib.hid (l01Bad_any w W4 w.heap.size x s4 hB4 (by first | omega | decide))
      clear s4
      go_wp2_with fail
      refine C5.out.mono ?_
      rintro e W5 ⟨xb, rfl, hxb, s5, g5⟩
      have hB5 := below_src hB4 HB0 g5
      clear C5 hB4 g5
      have hxb9 : xb.size ≤ 1000 := by first | omega | (have h00 : (⟨#[]⟩ : ByteArray).size = 0 := rfl; omega)
      have C6 := Lib.hid (l01Bad_any w W5 w.heap.size y s5 hB5 (by first | omega | decide))
      clear s5
      go_wp2_with fail
      refine C6.out.mono ?_
      rintro e W6 ⟨yb, rfl, hyb, s6, g6⟩
      have hB6 := below_src hB5 HB0 g6
      clear C6 hB5 g6
      have hyb9 : yb.size ≤ 1000 := by first | omega | (have h00 : (⟨#[]⟩ : ByteArray).size = 0 := rfl; omega)
      have C7 := Lib.hid (l01Bad_any w W6 w.heap.size v s6 hB6 (by first | omega | decide))
      clear s6
      go_wp2_with fail
      refine C7.out.mono ?_
      rintro e W7 ⟨vb, rfl, hvb, s7, g7⟩
      have hB7 := below_src hB6 HB0 g7
      clear C7 hB6 g7
      have hvb9 : vb.size ≤ 1000 := by first | omega | (have h00 : (⟨#[]⟩ : ByteArray).size = 0 := rfl; omega)
      go_wp2_with fail
      go_ret3
      exact ⟨xb, yb, vb, rfl, hxb9, hyb9, hvb9, hB7⟩
  · have h3i : ¬ (x.size : Int) > 3 := by omega
    have C4 := Lib.hid (l01Bad_any w W3 w.heap.size x s3 hB3 (by first | omega | decide))
    clear s3
    go_wp2_with fail
    refine C4.out.mono ?_
    rintro e W4 ⟨xb, rfl, hxb, s4, g4⟩
    have hB4 := below_src hB3 HB0 g4
    clear C4 hB3 g4
    have hxb9 : xb.size ≤ 1000 := by first | omega | (have h00 : (⟨#[]⟩ : ByteArray).size = 0 := rfl; omega)
    have C5 := Lib.hid (l01Bad_any w W4 w.heap.size y s4 hB4 (by first | omega | decide))
    clear s4
    go_wp2_with fail
    refine C5.out.mono ?_
    rintro e W5 ⟨yb, rfl, hyb, s5, g5⟩
    have hB5 := below_src hB4 HB0 g5
    clear C5 hB4 g5
    have hyb9 : yb.size ≤ 1000 := by first | omega | (have h00 : (⟨#[]⟩ : ByteArray).size = 0 := rfl; omega)
    have C6 := Lib.hid (l01Bad_any w W5 w.heap.size v s5 hB5 (by first | omega | decide))
    clear s5
    go_wp2_with fail
    refine C6.out.mono ?_
    rintro e W6 ⟨vb, rfl, hvb, s6, g6⟩
    have hB6 := below_src hB5 HB0 g6
    clear C6 hB5 g6
    have hvb9 : vb.size ≤ 1000 := by first | omega | (have h00 : (⟨#[]⟩ : ByteArray).size = 0 := rfl; omega)
    go_wp2_with fail
    go_ret3
    exact ⟨xb, yb, vb, rfl, hxb9, hyb9, hvb9, hB6⟩

end Go.Proofs.YtfipbnognjepkaaGreatDoor

/-! ### Like -/
namespace Go.Proofs.YtfipbnognjepkaaGreatDoor
set_option linter.unusedVariables false
set_option linter.unusedSimpArgs false
open Go.RowKit

set_option maxRecDepth 100000 in
theorem big_no (a : Option Addr) (len cap : Nat) (w : World) (h : len ≤ 4096) :
    Calls Tryz.prog 5 #[.slice a len cap] w fun e w' => e = .returned (.bool false) ∧ Below w.heap.size w w' := by
  go_enter Tryz.func5, Tryz.ntmps5
  go_wp2
  go_ret
  exact ⟨ret_bool (by simp; omega), Below.refl _ _⟩
set_option maxRecDepth 100000 in
theorem big_yes (a : Option Addr) (len cap : Nat) (w : World) (h : 4096 < len) :
    Calls Tryz.prog 5 #[.slice a len cap] w fun e w' => e = .returned (.bool true) ∧ Below w.heap.size w w' := by
  go_enter Tryz.func5, Tryz.ntmps5
  go_wp2
  go_ret
  exact ⟨ret_bool (by simp; omega), Below.refl _ _⟩

set_option maxRecDepth 100000 in
theorem words5_yes (B1 B2 : Nat) (v1 v2 : Value) (L : List ByteArray) (w : World) (h1 : OwnS w B1 v1 L) (h2 : OwnS w B2 v2 L) :
    Calls Tryz.prog 39 #[v1, v2] w fun e w' => e = .returned (.bool true) ∧ Below w.heap.size w w' := by
  by_cases h0 : L = []
  · subst h0
    obtain ⟨a1, c1, rfl⟩ := h1.empty
    obtain ⟨a2, c2, rfl⟩ := h2.empty
    clear h1 h2
    go_enter Tryz.func39, Tryz.ntmps39
    go_wp2
    refine wp_loop_rounds 1 ?_
    rw [rounds_succ]
    go_wp2
    go_ret
    exact ⟨rfl, Below.refl _ _⟩
  · have hn : 0 < L.length := List.length_pos_iff.2 h0
    obtain ⟨g1, c1, rfl, _, hg1, hc1, hm, cell1, _⟩ := h1.row hn
    obtain ⟨g2, c2, rfl, _, hg2, hc2, _, cell2, _⟩ := h2.row hn
    unfold maxLen at hm
    have C1 := Lib.hid cell1
    have C2 := Lib.hid cell2
    clear h1 h2 cell1 cell2 h0
    go_enter Tryz.func39, Tryz.ntmps39
    go_wp2
    go_loopw [5] (fun i wr => ∃ k : Nat, k ≤ L.length ∧ i = .int .i64 k ∧ Below w.heap.size w wr) (fun i _ => L.length - (intOf i).toNat)
    case atStart => exact ⟨0, Nat.zero_le _, rfl, Below.refl _ _⟩
    case round =>
      obtain ⟨k, hk, rfl, hB⟩ := hrel
      by_cases hp : k < L.length
      · have k1 : wr.cell? ⟨g1, k, none⟩ = some (.string (L[k]'hp)) := by rw [(bcell hB).1 g1 k hg1]; exact C1.out k hp
        have k2 : wr.cell? ⟨g2, k, none⟩ = some (.string (L[k]'hp)) := by rw [(bcell hB).1 g2 k hg2]; exact C2.out k hp
        have hpc1 : k < c1 := by omega
        have hpc2 : k < c2 := by omega
        generalize L[k]'hp = z at k1 k2
        go_wp2
        go_quiet (fail)
        go_wp2
        go_roundw
        case rel => exact ⟨k + 1, by omega, by go_num, hB.drewN _⟩
        case measure => simp [intOf]; omega
      · go_wp2
        go_ret
        exact ⟨rfl, hB⟩

end Go.Proofs.YtfipbnognjepkaaGreatDoor

/-! ### HasInt -/
namespace Go.Proofs.YtfipbnognjepkaaGreatDoor
set_option linter.unusedVariables false
set_option linter.unusedSimpArgs false
open Go.RowKit

theorem least_at (L : List Int) (z : Int) (h : z ∈ L) : ∃ j, ∃ hj : j < L.length, L[j]'hj = z ∧ ∀ i (hi : i < L.length), i < j → ¬ L[i]'hi = z := by
  induction L with
  | nil => cases h
  | cons a L ih =>
    by_cases e : a = z
    · exact ⟨0, by simp, e, fun i hi h => by omega⟩
    · rcases List.mem_cons.1 h with h | h
      · exact absurd h.symm e
      · obtain ⟨j, hj, h1, h2⟩ := ih h
        refine ⟨j + 1, by simp; omega, h1, fun i hi h3 => ?_⟩
        cases i with
        | zero => exact e
        | succ i => exact h2 i (by simp at hi; omega) (by omega)

set_option maxRecDepth 100000 in
theorem hasInt_yes (B1 : Nat) (v1 : Value) (L : List Int) (z : Int) (w : World) (h1 : OwnI w B1 v1 L) (hz : z ∈ L) :
    Calls Tryz.prog 35 #[v1, .int .i64 z] w fun e w' => e = .returned (.bool true) ∧ Below w.heap.size w w' := by
  have hn : 0 < L.length := List.length_pos_iff.2 fun e => by rw [e] at hz; cases hz
  obtain ⟨j, hj, hjz, hjm⟩ := least_at L z hz
  obtain ⟨g1, c1, rfl, _, hg1, hc1, hm, cell1, _⟩ := h1.row hn
  unfold maxLen at hm
  have C1 := Lib.hid cell1
  have JM := Lib.hid hjm
  have JZ := Lib.hid hjz
  clear h1 cell1 hz hjm hjz
  go_enter Tryz.func35, Tryz.ntmps35
  go_wp2
  go_loopw [5] (fun i wr => ∃ k : Nat, k ≤ j ∧ i = .int .i64 k ∧ Below w.heap.size w wr) (fun i _ => L.length - (intOf i).toNat)
  case atStart => exact ⟨0, Nat.zero_le _, rfl, Below.refl _ _⟩
  case round =>
    obtain ⟨k, hk, rfl, hB⟩ := hrel
    have hp : k < L.length := by omega
    have hpi : (k : Int) < (L.length : Int) := by omega
    have k1 : wr.cell? ⟨g1, k, none⟩ = some (.int .i64 (L[k]'hp)) := by rw [(bcell hB).1 g1 k hg1]; exact C1.out k hp
    have hpc1 : k < c1 := by omega
    by_cases he : k = j
    · have e : L[k]'hp = z := by subst he; exact JZ.out
      rw [e] at k1
      clear e he
      go_wp2
      go_ret
      exact ⟨rfl, hB⟩
    · have hkj : k < j := by omega
      have e := JM.out k hp hkj
      clear he
      generalize L[k]'hp = y at k1 e
      have e2 : ((y : Int) == z) = false := by rw [beq_eq_false_iff_ne]; exact e
      go_wp2
      go_roundw
      case rel => exact ⟨k + 1, by omega, by go_num, hB⟩
      case measure => simp [intOf]; omega

end Go.Proofs.YtfipbnognjepkaaGreatDoor
