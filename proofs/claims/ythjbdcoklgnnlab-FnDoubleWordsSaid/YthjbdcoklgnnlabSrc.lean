/- The model's source of draws: the next number, one of some numbers. -/
import Derived.Test.YthjbdcoklgnnlabInts
import Derived.Test.YthjbdcoklgnnlabIsRow
import Derived.RegionTactic
import Derived.Deep.RegionWith
import Derived.Deep.LoopGhost
import Derived.Outline
namespace Go.Proofs.Ythjbdcoklgnnlab
set_option linter.unusedVariables false
set_option linter.unusedSimpArgs false
open Go.RowKit

/-- A source of draws in a block of the call's own: a row of bytes that came in, a place in it, a number. -/
def Src (w0 W : World) (b : Nat) : Prop := ∃ (a : Option Addr) (len cap : Nat) (zs : List Int) (p : Nat) (h : Int),
  W.heap[b]? = some (.cells #[.slice a len cap, .int .i64 (p : Int), .int .u64 h] 139) ∧ IsRow .u8 w0 a len cap zs ∧ p ≤ len ∧ len ≤ 1048576 ∧ 0 ≤ h ∧ h < 18446744073709551616 ∧ w0.heap.size ≤ b

theorem wrap_u64 (y : Int) : IntKind.u64.wrap y = y % 18446744073709551616 := by
  unfold IntKind.wrap
  simp [show IntKind.u64.signed = false from rfl, show IntKind.u64.bits = 64 from rfl]
theorem wrap_in (y : Int) : 0 ≤ IntKind.u64.wrap y ∧ IntKind.u64.wrap y < 18446744073709551616 := by
  rw [wrap_u64]
  omega
theorem and_bound (y : Int) : 0 ≤ wrap64 (bits .and .u64 y 16777215) ∧ wrap64 (bits .and .u64 y 16777215) ≤ 16777215 := by
  have h : bits .and .u64 y 16777215 = IntKind.u64.wrap ((BitVec.ofInt 64 y &&& BitVec.ofInt 64 16777215).toNat : Int) := rfl
  have h2 : (BitVec.ofInt 64 y &&& BitVec.ofInt 64 16777215).toNat ≤ 16777215 := by
    rw [BitVec.toNat_and]
    exact Nat.le_trans Nat.and_le_right (by decide)
  rw [h, wrap_u64]
  unfold wrap64
  omega
/-- The three cells of a source. -/
theorem src_cells {W : World} {b : Nat} {x y z : Value} {t : TypeId} (hb : W.heap[b]? = some (.cells #[x, y, z] t)) :
    W.cell? ⟨b, 0, none⟩ = some x ∧ W.cell? ⟨b, 1, none⟩ = some y ∧ W.cell? ⟨b, 2, none⟩ = some z ∧ W.frozen? ⟨b, 0, none⟩ = false ∧ W.frozen? ⟨b, 1, none⟩ = false ∧ W.frozen? ⟨b, 2, none⟩ = false := by
  simp [World.cell?, World.frozen?, hb]
theorem src_set2 {W : World} {b : Nat} {x y z : Value} {t : TypeId} (hb : W.heap[b]? = some (.cells #[x, y, z] t)) (v : Value) : (W.setCell ⟨b, 2, none⟩ v).heap[b]? = some (.cells #[x, y, v] t) := by
  obtain ⟨hlt, hk⟩ := Array.getElem?_eq_some_iff.1 hb
  show (W.heap.modify b _)[b]? = _
  rw [Array.getElem?_eq_getElem (by rw [Array.size_modify]; exact hlt), Array.getElem_modify_self, hk]
  rfl
theorem src_set1 {W : World} {b : Nat} {x y z : Value} {t : TypeId} (hb : W.heap[b]? = some (.cells #[x, y, z] t)) (v : Value) : (W.setCell ⟨b, 1, none⟩ v).heap[b]? = some (.cells #[x, v, z] t) := by
  obtain ⟨hlt, hk⟩ := Array.getElem?_eq_some_iff.1 hb
  show (W.heap.modify b _)[b]? = _
  rw [Array.getElem?_eq_getElem (by rw [Array.size_modify]; exact hlt), Array.getElem_modify_self, hk]
  rfl
theorem grown_set0 {w w' : World} {g : Nat} (h : w.grownBy w' (some g)) (j : Nat) (u : Value) : w.grownBy (w'.setCell ⟨g, j, none⟩ u) (some g) := grown_set h j u
theorem grown_drewN {w w' : World} {r : Option Nat} (h : w.grownBy w' r) (n : Nat) : w.grownBy (w'.drewN n) r := ⟨h.os, h.tape, h.output, h.size, h.block⟩

set_option maxRecDepth 100000 in
set_option maxHeartbeats 1000000 in
theorem l01Next_any (w0 W : World) (b : Nat) (n : Int) (hS : Src w0 W b) (hB : Below w0.heap.size w0 W) (hn : n ≤ 4611686018427387904) (hn2 : -4611686018427387905 ≤ n) :
    Calls Try.prog 119 #[.pointer (some ⟨b, 0, none⟩), .int .i64 n] W fun e W' => ∃ v : Int, e = .returned (.int .i64 v) ∧ (n < 1 → v = 0) ∧ (1 ≤ n → 0 ≤ v ∧ v < n) ∧ Src w0 W' b ∧ W.grownBy W' (some b) := by
  by_cases h1 : n < 1
  · have HS := Lib.hid hS
    clear hS
    go_enter Try.func119, Try.ntmps119
    go_wp2
    go_ret
    exact ⟨0, rfl, fun _ => rfl, fun h => by omega, HS.out, grown_refl _ _⟩
  · obtain ⟨a, len, cap, zs, p, h, hb, hR, hp, hl, h0, h64, hwb⟩ := hS
    have c0 : W.cell? ⟨b, 0, none⟩ = some (.slice a len cap) := by simp [World.cell?, hb]
    have c1 : W.cell? ⟨b, 1, none⟩ = some (.int .i64 (p : Int)) := by simp [World.cell?, hb]
    have c2 : W.cell? ⟨b, 2, none⟩ = some (.int .u64 h) := by simp [World.cell?, hb]
    have f1 : W.frozen? ⟨b, 1, none⟩ = false := by simp [World.frozen?, hb]
    have f2 : W.frozen? ⟨b, 2, none⟩ = false := by simp [World.frozen?, hb]
    have hw1 := wrap_in (IntKind.u64.wrap (h * 6364136223846793005) + 1442695040888963407)
    have hbd := and_bound (IntKind.u64.wrap (IntKind.u64.wrap (h * 6364136223846793005) + 1442695040888963407) / 8589934592)
    by_cases hpl : p < len
    · obtain ⟨y, rfl, hz1, hz2, hcell, hwf⟩ : ∃ y, a = some y ∧ p < cap ∧ cap ≤ maxLen ∧ w0.cell? (y.add p) = some (.int .u8 (zs.getD p 0)) ∧ (0 ≤ zs.getD p 0 ∧ zs.getD p 0 ≤ 255) := by
        rcases hR with ⟨_, h2, _⟩ | ⟨y, h2, h3, h4, h5, h6, h7⟩
        · omega
        · refine ⟨y, h2, by omega, h4, h6 p (by omega), ?_⟩
          have hm := h7 (zs.getD p 0) (by rw [List.getD_eq_getElem?_getD, List.getElem?_eq_getElem (by omega)]; exact List.getElem_mem _)
          have : (IntKind.u8.min ≤ zs.getD p 0 ∧ zs.getD p 0 ≤ IntKind.u8.max) := by simpa [Lit.wf] using hm
          exact this
      have HR := Lib.hid hR
      clear hR
      generalize zs.getD p 0 = z at *
      go_enter Try.func119, Try.ntmps119
      go_wp2
      generalize wrap64 (bits .and .u64 (IntKind.u64.wrap (IntKind.u64.wrap (h * 6364136223846793005) + 1442695040888963407) / 8589934592) 16777215) = x at hbd ⊢
      generalize hh : IntKind.u64.wrap (IntKind.u64.wrap (h * 6364136223846793005) + 1442695040888963407) = h2 at hw1 ⊢
      have hb2 := src_set2 hb (.int .u64 h2)
      have hg2 := grown_set (grown_refl W (some b)) 2 (.int .u64 h2)
      have hB2 := hB.grown hg2 hB.size (fun k e => by cases e; exact hwb)
      have hzc : (W.setCell ⟨b, 2, none⟩ (.int .u64 h2)).cell? (y.add p) = some (.int .u8 z) := by rw [hB2.cell (World.block_lt_of_cell? _ _ hcell)]; exact hcell
      clear c0 c1 c2 f1 f2 hb hcell
      generalize W.setCell ⟨b, 2, none⟩ (.int .u64 h2) = W1 at hb2 hg2 hB2 hzc ⊢
      obtain ⟨c0, c1, c2, f0, f1, f2⟩ := src_cells hb2
      have hpl2 : (p : Int) < (len : Int) := by omega
      go_quiet (fail)
      go_wp2
      go_quiet (fail)
      go_wp2
      go_ret
      exact ⟨(x + z) % n, rfl, fun h => by omega, fun _ => ⟨Int.emod_nonneg _ (by omega), Int.emod_lt_of_pos _ (by omega)⟩, ⟨some y, len, cap, zs, p + 1, h2, by rw [show ((p + 1 : Nat) : Int) = (p : Int) + 1 by omega]; exact src_set1 hb2 _, HR.out, by omega, hl, hw1.1, hw1.2, hwb⟩, grown_set (grown_drewN hg2 _) 1 _⟩
    · go_enter Try.func119, Try.ntmps119
      go_wp2
      generalize wrap64 (bits .and .u64 (IntKind.u64.wrap (IntKind.u64.wrap (h * 6364136223846793005) + 1442695040888963407) / 8589934592) 16777215) = x at hbd ⊢
      generalize hh : IntKind.u64.wrap (IntKind.u64.wrap (h * 6364136223846793005) + 1442695040888963407) = h2 at hw1 ⊢
      have hb2 := src_set2 hb (.int .u64 h2)
      have hg2 := grown_set (grown_refl W (some b)) 2 (.int .u64 h2)
      clear c0 c1 c2 f1 f2 hb
      generalize W.setCell ⟨b, 2, none⟩ (.int .u64 h2) = W1 at hb2 hg2 ⊢
      obtain ⟨c0, c1, c2, f0, f1, f2⟩ := src_cells hb2
      have hpl2 : ¬ (p : Int) < (len : Int) := by omega
      go_quiet (fail)
      go_wp2
      go_ret
      exact ⟨x % n, rfl, fun h => by omega, ⟨Int.emod_nonneg _ (by omega), Int.emod_lt_of_pos _ (by omega)⟩, ⟨a, len, cap, zs, p, h2, hb2, hR, hp, hl, hw1.1, hw1.2, hwb⟩, grown_drewN hg2 _⟩

end Go.Proofs.Ythjbdcoklgnnlab
