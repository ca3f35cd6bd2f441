/- The draws of the law. -/
import Derived.WalkKit
import Derived.Test.YtkemdiefoohdjabGreatInts
import Derived.RegionTactic
import Derived.Deep.RegionWith
import Derived.Deep.LoopGhost
import Derived.Outline
import Derived.Test.YtkemdiefoohdjabGreatComPlain
import Derived.Lib.RuneBytes
import Derived.Lib.UnsafeStr
import Derived.Test.YtkemdiefoohdjabGreatOwn
import Derived.Test.YtkemdiefoohdjabGreatPers
import Derived.BigRegion
import Derived.RangeFuncBox
import Derived.Deep.QuietTactic
import Derived.BigQuiet
import Derived.Test.YtkemdiefoohdjabGreatShelf
import Derived.Lib.OthersKept
import Derived.WalkSmall
import Derived.Test.YtkemdiefoohdjabGreatStrs
import Derived.WalkSpells
import Derived.Deep.RegionHeld3
import Derived.Test.YtkemdiefoohdjabGreatSqPlain
import Derived.Test.YtkemdiefoohdjabGreatSq
import Derived.ChangeAlike
import Derived.Test.YtkemdiefoohdjabGreatPerPlain
import Derived.Test.YtkemdiefoohdjabGreatLeast
import Derived.Test.YtkemdiefoohdjabGreatPlain
import Derived.Test.YtkemdiefoohdjabGreatBorders

/-! ### IsRow -/
namespace Go.Proofs.YtkemdiefoohdjabGreat
set_option linter.unusedVariables false
open Go.RowKit
/-- It is nil; or it leads to a row of 'cap' cells, the numbers 'zs' (the first 'len' are its elements), each fitting its kind. -/
def IsRow (k : IntKind) (w : World) (a : Option Addr) (len cap : Nat) (zs : List Int) : Prop :=
  (a = none ∧ len = 0 ∧ cap = 0 ∧ zs = []) ∨
  ∃ x, a = some x ∧ len ≤ cap ∧ cap ≤ maxLen ∧ zs.length = cap ∧ (∀ i, i < zs.length → w.cell? (x.add i) = some (.int k (zs.getD i 0))) ∧ ∀ n ∈ zs, (Lit.int k n).wf = true
theorem IsRow.below {k : IntKind} {w w' : World} {a : Option Addr} {len cap : Nat} {zs : List Int} (h : IsRow k w a len cap zs) (b : Below w.heap.size w w') : IsRow k w' a len cap zs := by
  rcases h with h | ⟨x, h1, h2, h3, h4, h5, h6⟩
  · exact .inl h
  · exact .inr ⟨x, h1, h2, h3, h4, fun i hi => by rw [b.cell (World.block_lt_of_cell? _ _ (h5 i hi))]; exact h5 i hi, h6⟩
theorem IsRow.len_le {k : IntKind} {w : World} {a : Option Addr} {len cap : Nat} {zs : List Int} (h : IsRow k w a len cap zs) : len ≤ 9223372036854775807 := by
  rcases h with ⟨_, h, _⟩ | ⟨x, h1, h2, h3, _⟩
  · omega
  · unfold maxLen at h3; omega
end Go.Proofs.YtkemdiefoohdjabGreat

/-! ### Src -/
namespace Go.Proofs.YtkemdiefoohdjabGreat
set_option linter.unusedVariables false
set_option linter.unusedSimpArgs false
open Go.RowKit

/-- A source of draws in a block of the call's own: a row of bytes that came in, a place in it, a number. -/
def Src (w0 W : World) (b : Nat) : Prop := ∃ (a : Option Addr) (len cap : Nat) (zs : List Int) (p : Nat) (h : Int),
  W.heap[b]? = some (.cells #[.slice a len cap, .int .i64 (p : Int), .int .u64 h] 94) ∧ IsRow .u8 w0 a len cap zs ∧ p ≤ len ∧ len ≤ 1048576 ∧ 0 ≤ h ∧ h < 18446744073709551616 ∧ w0.heap.size ≤ b

theorem wrap_u64 (y : Int) : IntKind.u64.wrap y = y % 18446744073709551616 := by
  unfold IntKind.wrap
  simp [show IntKind.u64.signed = false from rfl, show IntKind.u64.bits = 64 from rfl]
theorem wrap_in (y : Int) : 0 ≤ IntKind.u64.wrap y ∧ IntKind.u64.wrap y < 18446744073709551616 := by
  rw [wrap_u64]
  omega
theorem and_bound (y : Int) : 0 ≤ wrap64 (bits .and .u64 y 16777215) ∧ wrap64 (bits .and .u64 y 16777215) ≤ 16777215 := by
  have h : bits .and .u64 y 16777215 = IntKind.u64.wrap ((BitVec.ofInt 64 y &&& BitVec.ofInt 64 16777215).toNat : Int) := rfl
  have h2 : (BitVec.ofInt 64 y &&& BitVec.ofInt 64 16777215).toNat ≤ 16777215 := by
    rw [BitVec.toNat_and]
    exact Nat.le_trans Nat.and_le_right (by decide)
  rw [h, wrap_u64]
  unfold wrap64
  omega
/-- The three cells of a source. -/
theorem src_cells {W : World} {b : Nat} {x y z : Value} {t : TypeId} (hb : W.heap[b]? = some (.cells #[x, y, z] t)) :
    W.cell? ⟨b, 0, none⟩ = some x ∧ W.cell? ⟨b, 1, none⟩ = some y ∧ W.cell? ⟨b, 2, none⟩ = some z ∧ W.frozen? ⟨b, 0, none⟩ = false ∧ W.frozen? ⟨b, 1, none⟩ = false ∧ W.frozen? ⟨b, 2, none⟩ = false := by
  simp [World.cell?, World.frozen?, hb]
theorem src_set2 {W : World} {b : Nat} {x y z : Value} {t : TypeId} (hb : W.heap[b]? = some (.cells #[x, y, z] t)) (v : Value) : (W.setCell ⟨b, 2, none⟩ v).heap[b]? = some (.cells #[x, y, v] t) := by
  obtain ⟨hlt, hk⟩ := Array.getElem?_eq_some_iff.1 hb
  show (W.heap.modify b _)[b]? = _
  rw [Array.getElem?_eq_getElem (by rw [Array.size_modify]; exact hlt), Array.getElem_modify_self, hk]
  rfl
theorem src_set1 {W : World} {b : Nat} {x y z : Value} {t : TypeId} (hb : W.heap[b]? = some (.cells #[x, y, z] t)) (v : Value) : (W.setCell ⟨b, 1, none⟩ v).heap[b]? = some (.cells #[x, v, z] t) := by
  obtain ⟨hlt, hk⟩ := Array.getElem?_eq_some_iff.1 hb
  show (W.heap.modify b _)[b]? = _
  rw [Array.getElem?_eq_getElem (by rw [Array.size_modify]; exact hlt), Array.getElem_modify_self, hk]
  rfl
theorem grown_set0 {w w' : World} {g : Nat} (h : w.grownBy w' (some g)) (j : Nat) (u : Value) : w.grownBy (w'.setCell ⟨g, j, none⟩ u) (some g) := grown_set h j u
theorem grown_drewN {w w' : World} {r : Option Nat} (h : w.grownBy w' r) (n : Nat) : w.grownBy (w'.drewN n) r := ⟨h.os, h.tape, h.output, h.size, h.block⟩

set_option maxRecDepth 100000 in
set_option maxHeartbeats 1000000 in
theorem l01Next_any (w0 W : World) (b : Nat) (n : Int) (hS : Src w0 W b) (hB : Below w0.heap.size w0 W) (hn : n ≤ 4611686018427387904) (hn2 : -4611686018427387905 ≤ n) :
    Calls Tryz.prog 66 #[.pointer (some ⟨b, 0, none⟩), .int .i64 n] W fun e W' => ∃ v : Int, e = .returned (.int .i64 v) ∧ (n < 1 → v = 0) ∧ (1 ≤ n → 0 ≤ v ∧ v < n) ∧ Src w0 W' b ∧ W.grownBy W' (some b) := by
  by_cases h1 : n < 1
  · have HS := Lib.hid hS
    clear hS
    go_enter Tryz.func66, Tryz.ntmps66
    go_wp2
    go_ret
    exact ⟨0, rfl, fun _ => rfl, fun h => by omega, HS.out, grown_refl _ _⟩
  · obtain ⟨a, len, cap, zs, p, h, hb, hR, hp, hl, h0, h64, hwb⟩ := hS
    have c0 : W.cell? ⟨b, 0, none⟩ = some (.slice a len cap) := by simp [World.cell?, hb]
    have c1 : W.cell? ⟨b, 1, none⟩ = some (.int .i64 (p : Int)) := by simp [World.cell?, hb]
    have c2 : W.cell? ⟨b, 2, none⟩ = some (.int .u64 h) := by simp [World.cell?, hb]
    have f1 : W.frozen? ⟨b, 1, none⟩ = false := by simp [World.frozen?, hb]
    have f2 : W.frozen? ⟨b, 2, none⟩ = false := by simp [World.frozen?, hb]
    have hw1 := wrap_in (IntKind.u64.wrap (h * 6364136223846793005) + 1442695040888963407)
    have hbd := and_bound (IntKind.u64.wrap (IntKind.u64.wrap (h * 6364136223846793005) + 1442695040888963407) / 8589934592)
    by_cases hpl : p < len
    · obtain ⟨y, rfl, hz1, hz2, hcell, hwf⟩ : ∃ y, a = some y ∧ p < cap ∧ cap ≤ maxLen ∧ w0.cell? (y.add p) = some (.int .u8 (zs.getD p 0)) ∧ (0 ≤ zs.getD p 0 ∧ zs.getD p 0 ≤ 255) := by
        rcases hR with ⟨_, h2, _⟩ | ⟨y, h2, h3, h4, h5, h6, h7⟩
        · omega
        · refine ⟨y, h2, by omega, h4, h6 p (by omega), ?_⟩
          have hm := h7 (zs.getD p 0) (by rw [List.getD_eq_getElem?_getD, List.getElem?_eq_getElem (by omega)]; exact List.getElem_mem _)
          have : (IntKind.u8.min ≤ zs.getD p 0 ∧ zs.getD p 0 ≤ IntKind.u8.max) := by simpa [Lit.wf] using hm
          exact this
      have HR := Lib.hid hR
      clear hR
      generalize zs.getD p 0 = z at *
      go_enter Tryz.func66, Tryz.ntmps66
      go_wp2
      generalize wrap64 (bits .and .u64 (IntKind.u64.wrap (IntKind.u64.wrap (h * 6364136223846793005) + 1442695040888963407) / 8589934592) 16777215) = x at hbd ⊢
      generalize hh : IntKind.u64.wrap (IntKind.u64.wrap (h * 6364136223846793005) + 1442695040888963407) = h2 at hw1 ⊢
      have hb2 := src_set2 hb (.int .u64 h2)
      have hg2 := grown_set (grown_refl W (some b)) 2 (.int .u64 h2)
      have hB2 := hB.grown hg2 hB.size (fun k e => by cases e; exact hwb)
      have hzc : (W.setCell ⟨b, 2, none⟩ (.int .u64 h2)).cell? (y.add p) = some (.int .u8 z) := by rw [hB2.cell (World.block_lt_of_cell? _ _ hcell)]; exact hcell
      clear c0 c1 c2 f1 f2 hb hcell
      generalize W.setCell ⟨b, 2, none⟩ (.int .u64 h2) = W1 at hb2 hg2 hB2 hzc ⊢
      obtain ⟨c0, c1, c2, f0, f1, f2⟩ := src_cells hb2
      have hpl2 : (p : Int) < (len : Int) := by omega
      go_quiet (fail)
      go_wp2
      go_quiet (fail)
      go_wp2
      go_ret
      exact ⟨(x + z) % n, rfl, fun h => by omega, fun _ => ⟨Int.emod_nonneg _ (by omega), Int.emod_lt_of_pos _ (by omega)⟩, ⟨some y, len, cap, zs, p + 1, h2, by rw [show ((p + 1 : Nat) : Int) = (p : Int) + 1 by omega]; exact src_set1 hb2 _, HR.out, by omega, hl, hw1.1, hw1.2, hwb⟩, grown_set (grown_drewN hg2 _) 1 _⟩
    · go_enter Tryz.func66, Tryz.ntmps66
      go_wp2
      generalize wrap64 (bits .and .u64 (IntKind.u64.wrap (IntKind.u64.wrap (h * 6364136223846793005) + 1442695040888963407) / 8589934592) 16777215) = x at hbd ⊢
      generalize hh : IntKind.u64.wrap (IntKind.u64.wrap (h * 6364136223846793005) + 1442695040888963407) = h2 at hw1 ⊢
      have hb2 := src_set2 hb (.int .u64 h2)
      have hg2 := grown_set (grown_refl W (some b)) 2 (.int .u64 h2)
      clear c0 c1 c2 f1 f2 hb
      generalize W.setCell ⟨b, 2, none⟩ (.int .u64 h2) = W1 at hb2 hg2 ⊢
      obtain ⟨c0, c1, c2, f0, f1, f2⟩ := src_cells hb2
      have hpl2 : ¬ (p : Int) < (len : Int) := by omega
      go_quiet (fail)
      go_wp2
      go_ret
      exact ⟨x % n, rfl, fun h => by omega, ⟨Int.emod_nonneg _ (by omega), Int.emod_lt_of_pos _ (by omega)⟩, ⟨a, len, cap, zs, p, h2, hb2, hR, hp, hl, hw1.1, hw1.2, hwb⟩, grown_drewN hg2 _⟩

end Go.Proofs.YtkemdiefoohdjabGreat

/-! ### WordOfPlain -/
namespace Go.Proofs.YtkemdiefoohdjabGreat
set_option linter.unusedVariables false
set_option linter.unusedSimpArgs false
open Go.RowKit

def okN (L : List Int) : Prop := ∀ j (h : j < L.length), 0 ≤ L[j]'h ∧ L[j]'h ≤ 4
instance (L : List Int) : Decidable (okN L) := by unfold okN; exact inferInstance
def okTo (L : List Int) (k : Nat) : Prop := ∀ j (h : j < L.length), j < k → 0 ≤ L[j]'h ∧ L[j]'h ≤ 4
theorem okTo.zero (L : List Int) : okTo L 0 := fun _ _ h => by omega
theorem okTo.succ {L : List Int} {k : Nat} (h : okTo L k) (hk : k < L.length) (h1 : 0 ≤ L[k]'hk) (h2 : L[k]'hk ≤ 4) : okTo L (k + 1) := by
  intro i hi hik
  by_cases e : i = k
  · subst e; exact ⟨h1, h2⟩
  · exact h i hi (by omega)
theorem okTo.whole {L : List Int} {k : Nat} (h : okTo L k) (hk : L.length ≤ k) : okN L := fun i hi => h i hi (by omega)
theorem okN_nil : okN [] := fun _ h => by simp at h
def letB (n : Int) : UInt8 := UInt8.ofNat (97 + n.toNat)
theorem letB_nat {n : Int} (h0 : 0 ≤ n) (h4 : n ≤ 4) : ((letB n).toNat : Int) = 97 + n := by
  unfold letB
  rw [UInt8.toNat_ofNat', Nat.mod_eq_of_lt (by omega)]
  omega
def wordL (L : List Int) : List UInt8 := L.map letB
def wordB (L : List Int) : ByteArray := ⟨(wordL L).toArray⟩
theorem wordL_snoc (L : List Int) (k : Nat) (h : k < L.length) : wordL (L.take k) ++ [letB (L[k]'h)] = wordL (L.take (k + 1)) := by
  rw [List.take_succ_eq_append_getElem h]
  unfold wordL
  rw [List.map_append]
  rfl
theorem wordL_len (L : List Int) (k : Nat) (h : k ≤ L.length) : (wordL (L.take k)).length = k := by simp [wordL]; omega
theorem runeCells_letter {n : Int} (h0 : 0 ≤ n) (h4 : n ≤ 4) : Lib.runeCells (97 + n) = Lib.byteCells [letB n] := by
  unfold Lib.runeCells Lib.byteCells
  rw [Lib.encodeRuneZ_one (by omega) (by omega)]
  simp [letB_nat h0 h4]
def wolR (L : List Int) : ByteArray × Int := if 60 < L.length ∨ ¬ okN L then (tE, 2) else (wordB L, 0)
theorem wolR_bad {L : List Int} (h : 60 < L.length ∨ ¬ okN L) : wolR L = (⟨#[]⟩, 2) := if_pos h
theorem wolR_ok {L : List Int} (h : L.length ≤ 60) (h2 : okN L) : wolR L = (wordB L, 0) := if_neg (by intro h3; rcases h3 with h3 | h3; omega; exact h3 h2)
theorem wordB_push (L : List Int) (k : Nat) (h : k < L.length) : (⟨(wordL (L.take k)).toArray⟩ : ByteArray) ++ ⟨#[letB (L[k]'h)]⟩ = ⟨(wordL (L.take (k + 1))).toArray⟩ := by
  apply ByteArray.ext
  rw [ByteArray.data_append]
  rw [← wordL_snoc L k h]
  simp

end Go.Proofs.YtkemdiefoohdjabGreat

/-! ### Letter -/
namespace Go.Proofs.YtkemdiefoohdjabGreat
set_option linter.unusedVariables false
set_option linter.unusedSimpArgs false
open Go.RowKit

set_option maxRecDepth 100000 in
theorem l01Letter_any (n : Int) (w : World) (h0 : 0 ≤ n) (h4 : n ≤ 4) :
    Calls Tryz.prog 70 #[.int .i64 n] w fun e w' => e = .returned (.string ⟨#[letB n]⟩) ∧ Below w.heap.size w w' := by
  have hb := letB_nat h0 h4
  have hcv : (convert 22 9 (.slice (some ⟨w.heap.size, 0, none⟩) 1 1)).run Tryz.prog (w.alloc (.cells #[.int .u8 (97 + n)] 5)) = .ok (.string ⟨#[letB n]⟩) (w.alloc (.cells #[.int .u8 (97 + n)] 5)) := by
    refine run_convert_bytes_back _ _ _ 5 _ _ [letB n] Tryz.underlying22 Tryz.underlying5 Tryz.underlying9 ?_
    intro j hj
    match j, hj with
    | 0, _ =>
      rw [← hb]
      simp [Addr.add, World.cell?_alloc_new]
  clear hb
  go_enter Tryz.func70, Tryz.ntmps70
  go_wp2
  go_ret
  exact ⟨rfl, Below.new _ _⟩

end Go.Proofs.YtkemdiefoohdjabGreat

/-! ### Draw -/
namespace Go.Proofs.YtkemdiefoohdjabGreat
set_option linter.unusedVariables false
set_option linter.unusedSimpArgs false
open Go.RowKit

theorem Src.lt {w0 W : World} {b : Nat} (h : Src w0 W b) : b < W.heap.size := by
  obtain ⟨_, _, _, _, _, _, hb, _⟩ := h
  exact (Array.getElem?_eq_some_iff.1 hb).1
theorem Src.ge {w0 W : World} {b : Nat} (h : Src w0 W b) : w0.heap.size ≤ b := by
  obtain ⟨_, _, _, _, _, _, _, _, _, _, _, _, h⟩ := h
  exact h
theorem Src.below {w0 W W' : World} {b : Nat} (h : Src w0 W b) (k : Below W.heap.size W W') : Src w0 W' b := by
  have hl := h.lt
  obtain ⟨a, len, cap, zs, p, q, hb, r⟩ := h
  exact ⟨a, len, cap, zs, p, q, by rw [k.block b hl]; exact hb, r⟩
theorem grown_of_below {W W' : World} (k : Below W.heap.size W W') (r : Option Nat) : W.grownBy W' r := ⟨k.os, k.tape, k.output, k.size, fun j hj _ => k.block j hj⟩
theorem grown_trans {A B C : World} {r : Option Nat} (h : A.grownBy B r) (k : B.grownBy C r) : A.grownBy C r :=
  ⟨k.os.trans h.os, k.tape.trans h.tape, k.output.trans h.output, Nat.le_trans h.size k.size, fun j hj hne => (k.block j (Nat.lt_of_lt_of_le hj h.size) hne).trans (h.block j hj hne)⟩
theorem below_src {w0 W W' : World} {b : Nat} (hB : Below w0.heap.size w0 W) (hb : w0.heap.size ≤ b) (g : W.grownBy W' (some b)) : Below w0.heap.size w0 W' :=
  hB.grown g hB.size (fun k e => by cases e; exact hb)

theorem grown_cell {W W1 : World} {r : Option Nat} (g : W.grownBy W1 r) {p : Addr} (hp : p.block < W.heap.size) (hne : some p.block ≠ r) : W1.cell? p = W.cell? p := by
  unfold World.cell?
  rw [g.block _ hp hne]
/-- What a drawing function that hands back a text comes to: some text of at most N bytes. -/
def DrawnT (N : Nat) (w0 W : World) (b : Nat) (e : Ending) (W' : World) : Prop := ∃ x : ByteArray, e = .returned (.string x) ∧ x.size ≤ N ∧ Src w0 W' b ∧ W.grownBy W' (some b)
def DrawnI (lo hi : Int) (w0 W : World) (b : Nat) (e : Ending) (W' : World) : Prop := ∃ v : Int, e = .returned (.int .i64 v) ∧ lo ≤ v ∧ v ≤ hi ∧ Src w0 W' b ∧ W.grownBy W' (some b)

/-- The next number. -/
theorem l01Next_i (w0 W : World) (b : Nat) (n : Int) (hS : Src w0 W b) (hB : Below w0.heap.size w0 W) (h1 : 1 ≤ n) (hn : n ≤ 4611686018427387904) :
    Calls Tryz.prog 66 #[.pointer (some ⟨b, 0, none⟩), .int .i64 n] W (DrawnI 0 (n - 1) w0 W b) := by
  refine (l01Next_any w0 W b n hS hB hn (by omega)).mono ?_
  rintro e W' ⟨v, rfl, _, h2, h3, h4⟩
  have h5 := h2 h1
  exact ⟨v, rfl, h5.1, by omega, h3, h4⟩
theorem l01Next_0 (w0 W : World) (b : Nat) (n : Int) (hS : Src w0 W b) (hB : Below w0.heap.size w0 W) (h1 : 0 ≤ n) (hn : n ≤ 4611686018427387904) :
    Calls Tryz.prog 66 #[.pointer (some ⟨b, 0, none⟩), .int .i64 n] W (DrawnI 0 n w0 W b) := by
  refine (l01Next_any w0 W b n hS hB hn (by omega)).mono ?_
  rintro e W' ⟨v, rfl, h1', h2, h3, h4⟩
  refine ⟨v, rfl, ?_, ?_, h3, h4⟩
  · by_cases h : n < 1
    · rw [h1' h]; exact Int.le_refl _
    · exact (h2 (by omega)).1
  · by_cases h : n < 1
    · rw [h1' h]; omega
    · have := (h2 (by omega)).2; omega

theorem cells_new_ints (W : World) (xs : List Int) (t : TypeId) : ∀ j (h : j < xs.length), (W.alloc (.cells (xs.map (Value.int .i64)).toArray t)).cell? ⟨W.heap.size, j, none⟩ = some (.int .i64 (xs[j]'h)) := by
  intro j h
  rw [World.cell?_alloc_new]
  simp [h]

set_option maxRecDepth 100000 in
theorem l01Pick_any (w0 W : World) (b g : Nat) (xs : List Int) (hS : Src w0 W b) (hB : Below w0.heap.size w0 W) (hg : g < W.heap.size) (hgb : g ≠ b) (h0 : 0 < xs.length) (hn : xs.length ≤ 60)
    (hc : ∀ j (h : j < xs.length), W.cell? ⟨g, j, none⟩ = some (.int .i64 (xs[j]'h))) :
    Calls Tryz.prog 47 #[.pointer (some ⟨b, 0, none⟩), .slice (some ⟨g, 0, none⟩) xs.length xs.length] W fun e W' => ∃ v : Int, e = .returned (.int .i64 v) ∧ v ∈ xs ∧ Src w0 W' b ∧ W.grownBy W' (some b) := by
  have CN := Lib.hid (l01Next_i w0 W b xs.length hS hB (by omega) (by omega))
  have HC := Lib.hid hc
  clear hc hS
  go_enter Tryz.func47, Tryz.ntmps47
  go_wp2_with fail
  refine CN.out.mono ?_
  rintro e W1 ⟨v, rfl, v0, v1, s1, g1⟩
  obtain ⟨m, rfl⟩ := Int.eq_ofNat_of_zero_le v0
  have hm : m < xs.length := by omega
  have k1 : W1.cell? ⟨g, m, none⟩ = some (.int .i64 (xs[m]'hm)) := by
    rw [grown_cell g1 (p := ⟨g, m, none⟩) hg (fun e => hgb (Option.some.inj e))]; exact HC.out m hm
  have HM := Lib.hid (List.getElem_mem hm)
  generalize xs[m]'hm = z at k1 HM
  go_wp2
  go_ret
  exact ⟨z, rfl, HM.out, s1, g1⟩

set_option maxRecDepth 100000 in
set_option maxHeartbeats 1000000 in
theorem l01DrawOf_any (w0 W : World) (b : Nat) (n k : Int) (hS : Src w0 W b) (hB : Below w0.heap.size w0 W) (hn : n ≤ 100) (hn0 : 0 ≤ n) (hk1 : 1 ≤ k) (hk5 : k ≤ 5) :
    Calls Tryz.prog 89 #[.pointer (some ⟨b, 0, none⟩), .int .i64 n, .int .i64 k] W fun e W' => ∃ x : ByteArray, e = .returned (.string x) ∧ (x.size : Int) = n ∧ Src w0 W' b ∧ W.grownBy W' (some b) := by
  have HB0 := hS.ge
  obtain ⟨N, rfl⟩ := Int.eq_ofNat_of_zero_le hn0
  go_enter Tryz.func89, Tryz.ntmps89
  go_wp2
  go_loopg [7, 8] N (fun g s7 s8 wr => ∃ (j : Nat) (x : ByteArray), j + g = N ∧ x.size = j ∧ s7 = .string x ∧ s8 = .int .i64 (j : Int) ∧ Src w0 wr b ∧ W.grownBy wr (some b))
  case atStart => exact ⟨0, ⟨#[]⟩, by omega, rfl, rfl, rfl, hS, grown_refl _ _⟩
  case round =>
    clear hS
    obtain ⟨j, x, hj, hx, rfl, rfl, hS, hG⟩ := hrel
    by_cases hp : j < N
    · obtain ⟨g, rfl⟩ : ∃ g, gk = g + 1 := ⟨gk - 1, by omega⟩
      have hB1 := below_src hB HB0 hG
      have CN := Lib.hid (l01Next_i w0 wr b k hS hB1 hk1 (by omega))
      clear hS
      go_wp2_with fail
      refine CN.out.mono ?_
      rintro e W1 ⟨v, rfl, v0, v1, s1, g1⟩
      go_wp2_with fail
      refine (l01Letter_any v _ v0 (by omega)).mono ?_
      rintro e W2 ⟨rfl, b2⟩
      have e1 : (⟨#[letB v]⟩ : ByteArray).size = 1 := rfl
      generalize (⟨#[letB v]⟩ : ByteArray) = t at *
      have hsum : ∀ W, (Op.stringOp .add x t).run Tryz.prog W = .ok (.string (x ++ t)) W := fun W => run_string_add_sum W x t (by omega)
      have s2 := s1.below b2
      have g2 := grown_trans (grown_trans hG g1) (grown_of_below b2 (some b))
      have hz : (x ++ t).size = j + 1 := by rw [ByteArray.size_append]; omega
      go_wp2_with fail
      go_roundg g
      case measure => omega
      case rel => exact ⟨j + 1, x ++ t, by omega, hz, rfl, by go_num, s2, g2⟩
    · have hN : Hid (j = N) := Lib.hid (by omega)
      go_wp2
      go_ret
      exact ⟨x, rfl, by have := hN.out; omega, hS, hG⟩

set_option maxRecDepth 100000 in
set_option maxHeartbeats 1000000 in
theorem l01Small_any (w0 W : World) (b : Nat) (hS : Src w0 W b) (hB : Below w0.heap.size w0 W) :
    Calls Tryz.prog 91 #[.pointer (some ⟨b, 0, none⟩)] W (DrawnT 10 w0 W b) := by
  have HB0 := hS.ge
  have CN := Lib.hid (l01Next_i w0 W b 11 hS hB (by omega) (by omega))
  clear hS
  go_enter Tryz.func91, Tryz.ntmps91
  go_wp2_with fail
  refine CN.out.mono ?_
  rintro e W1 ⟨v, rfl, v0, v1, s1, g1⟩
  have hB1 := below_src hB HB0 g1
  have hbl := s1.lt
  go_wp2_with fail
  refine (l01Pick_any w0 _ b _ [1, 2, 2, 2, 3, 5] (s1.below (Below.new _ _)) (hB1.alloc hB1.size _) (by simp) (by omega) (by decide) (by decide) (cells_new_ints W1 [1, 2, 2, 2, 3, 5] _)).mono ?_
  rintro e W2 ⟨k, rfl, hk, s2, g2⟩
  have hB2 := below_src (hB1.alloc hB1.size _) HB0 g2
  have hk2 : 1 ≤ k ∧ k ≤ 5 := by simp at hk; omega
  have g3 := grown_trans g1 (grown_trans (grown_of_below (Below.new W1 _) (some b)) g2)
  clear hk
  go_wp2_with fail
  refine (l01DrawOf_any w0 _ b v k s2 hB2 (by omega) v0 hk2.1 hk2.2).mono ?_
  rintro e W3 ⟨x, rfl, hx, s3, g4⟩
  go_wp2_with fail
  go_ret
  exact ⟨x, rfl, by omega, s3, grown_trans g3 g4⟩

end Go.Proofs.YtkemdiefoohdjabGreat

/-! ### Draw2 -/
namespace Go.Proofs.YtkemdiefoohdjabGreat
set_option linter.unusedVariables false
set_option linter.unusedSimpArgs false
open Go.RowKit

set_option maxRecDepth 100000 in
set_option maxHeartbeats 2000000 in
theorem l01From_any (a : Option Addr) (len cap : Nat) (zs : List Int) (w : World) (h : IsRow .u8 w a len cap zs) (hl : len ≤ 1048576) :
    Calls Tryz.prog 48 #[.slice a len cap] w fun e w' => e = .returned (.pointer (some ⟨w.heap.size, 0, none⟩)) ∧ Src w w' w.heap.size ∧ Below w.heap.size w w' := by
  have HR := Lib.hid h
  have hby : ∀ j, j < len → ∃ y z, a = some y ∧ j < cap ∧ w.cell? (y.add j) = some (.int .u8 z) ∧ 0 ≤ z ∧ z ≤ 255 := by
    intro j hj
    rcases h with ⟨_, h2, _⟩ | ⟨y, h2, h3, h4, h5, h6, h7⟩
    · omega
    · have hm := h7 (zs.getD j 0) (by rw [List.getD_eq_getElem?_getD, List.getElem?_eq_getElem (by omega)]; exact List.getElem_mem _)
      have : (IntKind.u8.min ≤ zs.getD j 0 ∧ zs.getD j 0 ≤ IntKind.u8.max) := by simpa [Lit.wf] using hm
      exact ⟨y, _, h2, by omega, h6 j (by omega), this.1, this.2⟩
  have HY := Lib.hid hby
  clear h hby
  go_enter Tryz.func48, Tryz.ntmps48
  go_wp2
  go_loopg [4] len (fun g s4 wr => ∃ (j : Nat) (q : Int), j + g = len ∧ s4 = .int .i64 (j : Int) ∧ wr.heap[w.heap.size]? = some (.cells #[.slice a len cap, .int .i64 0, .int .u64 q] 94) ∧ 0 ≤ q ∧ q < 18446744073709551616 ∧ Below w.heap.size w wr)
  case atStart =>
    refine ⟨0, _, by omega, rfl, World.alloc_heap_new w _, ?_, ?_, Below.new _ _⟩
    · omega
    · omega
  case round =>
    obtain ⟨j, q, hj, rfl, hb, q0, q1, hB⟩ := hrel
    by_cases hp : j < len
    · by_cases hp2 : (j : Int) < 4096
      · obtain ⟨g, rfl⟩ : ∃ g, gk = g + 1 := ⟨gk - 1, by omega⟩
        obtain ⟨y, z, rfl, hjc, hcell, z0, z1⟩ := HY.out j hp
        have hzc : wr.cell? (y.add j) = some (.int .u8 z) := by rw [hB.cell (World.block_lt_of_cell? _ _ hcell)]; exact hcell
        have hwi := wrap_in (IntKind.u64.wrap (IntKind.u64.wrap (q * 1099511628211) + z) + 211)
        obtain ⟨c0, c1, c2, f0, f1, f2⟩ := src_cells hb
        have hpl : (j : Int) < (len : Int) := by omega
        go_wp2
        go_region
        have hb2 := src_set2 hb (.int .u64 (IntKind.u64.wrap (IntKind.u64.wrap (IntKind.u64.wrap (q * 1099511628211) + z) + 211)))
        have hB2 : Below w.heap.size w (wr.setCell ⟨w.heap.size, 2, none⟩ (.int .u64 (IntKind.u64.wrap (IntKind.u64.wrap (IntKind.u64.wrap (q * 1099511628211) + z) + 211)))) := hB.setCell (p := ⟨w.heap.size, 2, none⟩) (Nat.le_refl _) _
        go_wp2
        go_roundg g
        case measure => omega
        case rel => exact ⟨j + 1, _, by omega, by go_num, hb2, hwi.1, hwi.2, hB2.drew⟩
      · go_wp2
        go_ret
        exact ⟨rfl, ⟨a, len, cap, zs, 0, q, hb, HR.out, by omega, hl, q0, q1, Nat.le_refl _⟩, hB⟩
    · go_wp2
      go_ret
      exact ⟨rfl, ⟨a, len, cap, zs, 0, q, hb, HR.out, by omega, hl, q0, q1, Nat.le_refl _⟩, hB⟩

theorem cells_new_strs (W : World) (xs : List ByteArray) (t : TypeId) : ∀ j (h : j < xs.length), (W.alloc (.cells (xs.map Value.string).toArray t)).cell? ⟨W.heap.size, j, none⟩ = some (.string (xs[j]'h)) := by
  intro j h
  rw [World.cell?_alloc_new]
  simp [h]
def signsL : List ByteArray := [⟨#[97]⟩, ⟨#[98]⟩, ⟨#[99]⟩, ⟨#[101]⟩, ⟨#[102]⟩, ⟨#[65]⟩, ⟨#[32]⟩, ⟨#[44]⟩, ⟨#[48]⟩, ⟨#[10]⟩]
theorem signsL_size : ∀ j (h : j < signsL.length), (signsL[j]'h).size = 1 := by
  intro j h
  match j, h with
  | 0, _ | 1, _ | 2, _ | 3, _ | 4, _ | 5, _ | 6, _ | 7, _ | 8, _ | 9, _ => rfl
  | j + 10, h => simp [signsL] at h; omega

set_option maxRecDepth 100000 in
set_option maxHeartbeats 1000000 in
theorem l01Damage_any (w0 W : World) (b : Nat) (x : ByteArray) (hS : Src w0 W b) (hB : Below w0.heap.size w0 W) (hx : x.size ≤ 1000) :
    Calls Tryz.prog 67 #[.pointer (some ⟨b, 0, none⟩), .string x] W (DrawnT (x.size + 1) w0 W b) := by
  have HB0 := hS.ge
  have hbl0 := hS.lt
  have CN := Lib.hid (l01Next_i w0 _ b 10 (hS.below (Below.new W (.cells (signsL.map Value.string).toArray 9))) (hB.alloc hB.size _) (by omega) (by omega))
  have HC := Lib.hid (cells_new_strs W signsL 9)
  have HB1 := Lib.hid (hB.alloc hB.size (.cells (signsL.map Value.string).toArray 9))
  have HG := Lib.hid (grown_of_below (Below.new W (.cells (signsL.map Value.string).toArray 9)) (some b))
  have hz : (W.alloc (.cells (signsL.map Value.string).toArray 9)).heap.size = W.heap.size + 1 := by simp
  clear hS
  go_enter Tryz.func67, Tryz.ntmps67
  go_wp2_with fail
  refine CN.out.mono ?_
  rintro e W1 ⟨v, rfl, v0, v1, s1, g1⟩
  obtain ⟨m, rfl⟩ := Int.eq_ofNat_of_zero_le v0
  have hm : m < signsL.length := by simp [signsL]; omega
  have k1 : W1.cell? ⟨W.heap.size, m, none⟩ = some (.string (signsL[m]'hm)) := by
    rw [grown_cell g1 (p := ⟨W.heap.size, m, none⟩) (by show W.heap.size < _; omega) (fun e => by have h : W.heap.size = b := Option.some.inj e; omega)]; exact HC.out m hm
  have hcs := signsL_size m hm
  have hB1 := below_src HB1.out HB0 g1
  have g2 := grown_trans HG.out g1
  have hm10 : (m : Int) < 10 := by omega
  generalize signsL[m]'hm = c at k1 hcs
  clear g1 hz
  by_cases h0 : x.size = 0
  · have hx0 : (x.size : Int) = 0 := by omega
    go_wp2_with fail
    go_ret
    exact ⟨c, rfl, by omega, s1, g2⟩
  · have CM := Lib.hid (l01Next_i w0 W1 b x.size s1 hB1 (by omega) (by omega))
    have hx0 : ¬ (x.size : Int) = 0 := by omega
    go_wp2_with fail
    refine CM.out.mono ?_
    rintro e W2 ⟨k, rfl, k0, k1, s2, g3⟩
    obtain ⟨n, rfl⟩ := Int.eq_ofNat_of_zero_le k0
    have hn : n < x.size := by omega
    have hB2 := below_src hB1 HB0 g3
    have g4 := grown_trans g2 g3
    have CK := Lib.hid (l01Next_i w0 W2 b 3 s2 hB2 (by omega) (by omega))
    have hsl1 := fun W => slice_to x (n : Int) n rfl (by omega) W
    have hsl2 := fun W => slice_from x ((n : Int) + 1) (n + 1) (by omega) (by omega) W
    have hsl3 := fun W => slice_from x (n : Int) n rfl (by omega) W
    have z1 : (x.extract 0 n).size = n := by simp; omega
    have z2 : (x.extract (n + 1) x.size).size = x.size - (n + 1) := by simp
    have z3 : (x.extract n x.size).size = x.size - n := by simp
    generalize x.extract 0 n = x1 at *
    generalize x.extract (n + 1) x.size = x2 at *
    generalize x.extract n x.size = x3 at *
    have hsum1 : ∀ W, (Op.stringOp .add x1 c).run Tryz.prog W = .ok (.string (x1 ++ c)) W := fun W => run_string_add_sum W _ _ (by omega)
    have y1 : (x1 ++ c).size = n + 1 := by rw [ByteArray.size_append]; omega
    have hsum2 : ∀ W, (Op.stringOp .add (x1 ++ c) x2).run Tryz.prog W = .ok (.string (x1 ++ c ++ x2)) W := fun W => run_string_add_sum W _ _ (by omega)
    have y2 : (x1 ++ c ++ x2).size = x.size := by rw [ByteArray.size_append]; omega
    have hsum3 : ∀ W, (Op.stringOp .add x1 x2).run Tryz.prog W = .ok (.string (x1 ++ x2)) W := fun W => run_string_add_sum W _ _ (by omega)
    have y3 : (x1 ++ x2).size = x.size - 1 := by rw [ByteArray.size_append]; omega
    have hsum4 : ∀ W, (Op.stringOp .add (x1 ++ c) x3).run Tryz.prog W = .ok (.string (x1 ++ c ++ x3)) W := fun W => run_string_add_sum W _ _ (by omega)
    have y4 : (x1 ++ c ++ x3).size = x.size + 1 := by rw [ByteArray.size_append]; omega
    generalize x1 ++ x2 = o3 at *
    generalize x1 ++ c ++ x2 = o2 at *
    generalize x1 ++ c ++ x3 = o4 at *
    generalize x1 ++ c = o1 at *
    go_wp2_with fail
    refine CK.out.mono ?_
    rintro e W3 ⟨q, rfl, q0, q1, s3, g5⟩
    have g6 := grown_trans g4 g5
    have s4 := fun n => (s3.below ((Below.refl _ W3).drewN n))
    by_cases hq0 : q = 0
    · subst hq0
      go_wp2_with fail
      go_quiet (fail)
      go_wp2
      go_ret
      exact ⟨o2, rfl, by omega, s4 _, grown_drewN g6 _⟩
    · by_cases hq1 : q = 1
      · subst hq1
        go_wp2_with fail
        go_quiet (fail)
        go_wp2
        go_ret
        exact ⟨o3, rfl, by omega, s4 _, grown_drewN g6 _⟩
      · go_wp2_with fail
        go_quiet (fail)
        go_wp2
        go_ret
        exact ⟨o4, rfl, by omega, s4 _, grown_drewN g6 _⟩

set_option maxRecDepth 100000 in
set_option maxHeartbeats 1000000 in
theorem l01Bad_any (w0 W : World) (b : Nat) (x : ByteArray) (hS : Src w0 W b) (hB : Below w0.heap.size w0 W) (hx : x.size ≤ 900) :
    Calls Tryz.prog 49 #[.pointer (some ⟨b, 0, none⟩), .string x] W (DrawnT (x.size + 64) w0 W b) := by
  have HB0 := hS.ge
  have CN := Lib.hid (l01Next_i w0 W b 50 hS hB (by omega) (by omega))
  clear hS
  go_enter Tryz.func49, Tryz.ntmps49
  go_wp2_with fail
  refine CN.out.mono ?_
  rintro e W1 ⟨v, rfl, v0, v1, s1, g1⟩
  have hB1 := below_src hB HB0 g1
  by_cases h0 : v = 0
  · subst h0
    have hsum : ∀ W, (Op.stringOp .add x ⟨#[102]⟩).run Tryz.prog W = .ok (.string (x ++ ⟨#[102]⟩)) W := fun W => run_string_add_sum W _ _ (by show x.size + 1 ≤ _; omega)
    have y1 : (x ++ (⟨#[102]⟩ : ByteArray)).size = x.size + 1 := by rw [ByteArray.size_append]; rfl
    generalize x ++ (⟨#[102]⟩ : ByteArray) = o1 at *
    go_wp2_with fail
    go_ret
    exact ⟨o1, rfl, by omega, s1, g1⟩
  · by_cases h1 : v = 1
    · subst h1
      have CD := Lib.hid (l01Damage_any w0 W1 b x s1 hB1 (by omega))
      go_wp2_with fail
      refine CD.out.mono ?_
      rintro e W2 ⟨y, rfl, hy, s2, g2⟩
      go_wp2_with fail
      go_ret
      exact ⟨y, rfl, by omega, s2, grown_trans g1 g2⟩
    · by_cases h2 : v = 2
      · subst h2
        go_wp2_with fail
        go_loopg [1] 61 (fun g s1 wr => ∃ y : ByteArray, 61 ≤ g + y.size ∧ y.size ≤ x.size + 62 ∧ s1 = .string y ∧ wr = W1)
        case atStart => exact ⟨x, by omega, by omega, rfl, rfl⟩
        case round =>
          obtain ⟨y, hy1, hy2, rfl, rfl⟩ := hrel
          by_cases hp : y.size ≤ 60
          · obtain ⟨g, rfl⟩ : ∃ g, gk = g + 1 := ⟨gk - 1, by omega⟩
            have hsum : ∀ W, (Op.stringOp .add y ⟨#[97, 98]⟩).run Tryz.prog W = .ok (.string (y ++ ⟨#[97, 98]⟩)) W := fun W => run_string_add_sum W _ _ (by show y.size + 2 ≤ _; omega)
            have y1 : (y ++ (⟨#[97, 98]⟩ : ByteArray)).size = y.size + 2 := by rw [ByteArray.size_append]; rfl
            generalize y ++ (⟨#[97, 98]⟩ : ByteArray) = o1 at *
            go_wp2
            go_roundg g
            case measure => omega
            case rel => exact ⟨o1, by omega, by omega, rfl, by first | rfl | trivial⟩
          · go_wp2
            go_ret
            exact ⟨y, rfl, by omega, s1, g1⟩
      · go_wp2_with fail
        go_ret
        exact ⟨x, rfl, by omega, s1, g1⟩

end Go.Proofs.YtkemdiefoohdjabGreat

/-! ### WordOf -/
namespace Go.Proofs.YtkemdiefoohdjabGreat
set_option linter.unusedVariables false
set_option linter.unusedSimpArgs false
open Go.RowKit

end Go.Proofs.YtkemdiefoohdjabGreat

/-! ### WordOfS -/
namespace Go.Proofs.YtkemdiefoohdjabGreat
set_option linter.unusedVariables false
set_option linter.unusedSimpArgs false
open Go.RowKit

set_option maxRecDepth 100000 in
theorem l01In_yes' (n lo hi : Int) (w : World) (h1 : lo ≤ n) (h2 : n ≤ hi) :
    Calls Tryz.prog 35 #[.int .i64 n, .int .i64 lo, .int .i64 hi] w fun e w' => e = .returned (.bool true) ∧ w = w' := by
  go_enter Tryz.func35, Tryz.ntmps35
  go_wp2
  go_ret
  exact ⟨ret_bool (by simp [*]), rfl⟩

set_option maxRecDepth 100000 in
theorem l01In_no' (n lo hi : Int) (w : World) (h : ¬ (lo ≤ n ∧ n ≤ hi)) :
    Calls Tryz.prog 35 #[.int .i64 n, .int .i64 lo, .int .i64 hi] w fun e w' => e = .returned (.bool false) ∧ w = w' := by
  by_cases h1 : lo ≤ n
  · have h2 : hi < n := by omega
    clear h
    go_enter Tryz.func35, Tryz.ntmps35
    go_wp2
    go_ret
    exact ⟨ret_bool (by simp; omega), rfl⟩
  · have h2 : n < lo := by omega
    clear h h1
    go_enter Tryz.func35, Tryz.ntmps35
    go_wp2
    go_ret
    exact ⟨rfl, rfl⟩

end Go.Proofs.YtkemdiefoohdjabGreat

/-! ### LettersPlain -/
namespace Go.Proofs.YtkemdiefoohdjabGreat
set_option linter.unusedVariables false
set_option linter.unusedSimpArgs false
open Go.RowKit

def numsR (x : ByteArray) : List Int := x.data.toList.map fun b => (b.toNat : Int) - 97
theorem numsR_len (x : ByteArray) : (numsR x).length = x.size := by
  unfold numsR
  rw [List.length_map]
  rfl
theorem numsR_get (x : ByteArray) (k : Nat) (h : k < (numsR x).length) (h' : k < x.size) : (numsR x)[k]'h = ((x[k]'h').toNat : Int) - 97 := by
  have h2 : k < (x.data.toList.map fun b => (b.toNat : Int) - 97).length := h
  have e : (x.data.toList.map fun b => (b.toNat : Int) - 97)[k]'h2 = ((x.data.toList[k]'(by simpa using h2)).toNat : Int) - 97 := List.getElem_map ..
  exact e
theorem nums_snoc (L : List Int) (k : Nat) (h : k < L.length) : (L.take k).map (Value.int .i64) ++ [Value.int .i64 (L[k]'h)] = (L.take (k + 1)).map (Value.int .i64) := by
  rw [List.take_succ_eq_append_getElem h, List.map_append]; rfl
def lettersR (x : ByteArray) : List Int × Int := if ¬ IsW x then ([], 1) else (numsR x, 0)
theorem lettersR_bad {x : ByteArray} (h : ¬ IsW x) : lettersR x = ([], 1) := if_pos h
theorem lettersR_ok {x : ByteArray} (h : IsW x) : lettersR x = (numsR x, 0) := by unfold lettersR; rw [if_neg (not_not_intro h)]
theorem lettersR_len (x : ByteArray) : (lettersR x).1.length ≤ 4096 := by
  by_cases h : IsW x
  · rw [lettersR_ok h, numsR_len]; have := h.size; omega
  · rw [lettersR_bad h]; decide

end Go.Proofs.YtkemdiefoohdjabGreat

/-! ### Numbers -/
namespace Go.Proofs.YtkemdiefoohdjabGreat
set_option linter.unusedVariables false
set_option linter.unusedSimpArgs false
open Go.RowKit

set_option maxRecDepth 100000 in
theorem l01At_any (x : ByteArray) (k : Nat) (w : World) (h : k < x.size) (hs : x.size ≤ 60) :
    Calls Tryz.prog 87 #[.string x, .int .i64 k] w fun e w' => e = .returned (.int .i64 (((x[k]'h).toNat : Int) - 97)) ∧ Below w.heap.size w w' := by
  have hb : (x[k]'h).toNat ≤ 255 := by have := (x[k]'h).toNat_lt; omega
  go_enter Tryz.func87, Tryz.ntmps87
  go_wp2
  go_ret
  exact ⟨rfl, Below.refl _ _⟩

end Go.Proofs.YtkemdiefoohdjabGreat

/-! ### NamedPlain -/
namespace Go.Proofs.YtkemdiefoohdjabGreat
set_option linter.unusedVariables false
set_option linter.unusedSimpArgs false
open Go.RowKit

def bt (l : List UInt8) : ByteArray := ⟨l.toArray⟩
theorem bt_size (l : List UInt8) : (bt l).size = l.length := rfl
theorem bt_app (a b : List UInt8) : bt a ++ bt b = bt (a ++ b) := by
  apply ByteArray.ext
  rw [ByteArray.data_append]
  simp [bt]
theorem bt_take (l : List UInt8) (m : Nat) : (bt l).extract 0 m = bt (l.take m) := by
  apply ByteArray.ext
  rw [ByteArray.data_extract]
  simp [bt]
def imgs : Nat → List (List UInt8)
  | 0 => [[97, 98], [97]]
  | 1 => [[97, 98], [98, 97]]
  | 2 => [[97, 98], [97, 97]]
  | _ => [[97, 98, 99], [97, 99], [98]]
def img (I : List (List UInt8)) (c : UInt8) : List UInt8 := I.getD (c.toNat - 97) []
def implRun (I : List (List UInt8)) (m : Nat) : Nat → List UInt8 → Nat → List UInt8
  | 0, l, _ => l
  | f + 1, l, i => if l.length < m then implRun I m f (l ++ img I (l.getD i 0)) (i + 1) else l
def specRun (I : List (List UInt8)) (m : Nat) : Nat → List UInt8 → List UInt8
  | 0, l => l
  | f + 1, l => if l.length < m then specRun I m f (l.flatMap (img I)) else l
def namedI (d m : Nat) : List UInt8 := implRun (imgs d) m 60 ((imgs d).getD 0 []) 1
def namedS (d m : Nat) : List UInt8 := specRun (imgs d) m 60 [97]
theorem named_eq : ∀ d, d < 4 → ∀ m, m < 61 → (namedI d m).take m = (namedS d m).take m := by decide +kernel
theorem implRun_step {I : List (List UInt8)} {m f i : Nat} {l : List UInt8} (h : l.length < m) : implRun I m (f + 1) l i = implRun I m f (l ++ img I (l.getD i 0)) (i + 1) := by rw [implRun, if_pos h]
theorem implRun_end {I : List (List UInt8)} {m f i : Nat} {l : List UInt8} (h : ¬ l.length < m) : implRun I m f l i = l := by
  cases f with
  | zero => rfl
  | succ f => rw [implRun, if_neg h]
theorem specRun_step {I : List (List UInt8)} {m f : Nat} {l : List UInt8} (h : l.length < m) : specRun I m (f + 1) l = specRun I m f (l.flatMap (img I)) := by rw [specRun, if_pos h]
theorem specRun_end {I : List (List UInt8)} {m f : Nat} {l : List UInt8} (h : ¬ l.length < m) : specRun I m f l = l := by
  cases f with
  | zero => rfl
  | succ f => rw [specRun, if_neg h]
/-- All letters have images. -/
def lets (I : List (List UInt8)) (l : List UInt8) : Prop := ∀ c ∈ l, 97 ≤ c.toNat ∧ c.toNat - 97 < I.length
instance (I : List (List UInt8)) (l : List UInt8) : Decidable (lets I l) := by unfold lets; exact inferInstance
def goodI (I : List (List UInt8)) : Prop := (∀ s ∈ I, 1 ≤ s.length ∧ s.length ≤ 3 ∧ lets I s) ∧ 2 ≤ I.length ∧ I.length ≤ 3 ∧ 2 ≤ (I.getD 0 []).length ∧ (I.getD 0 []).getD 0 0 = 97
instance (I : List (List UInt8)) : Decidable (goodI I) := by unfold goodI; exact inferInstance
theorem imgs_good : ∀ d, d < 4 → goodI (imgs d) := by decide +kernel
theorem img_mem {I : List (List UInt8)} {c : UInt8} (h : c.toNat - 97 < I.length) : img I c ∈ I := by
  unfold img
  rw [List.getD_eq_getElem?_getD, List.getElem?_eq_getElem h]
  exact List.getElem_mem h
theorem lets_app {I : List (List UInt8)} {a b : List UInt8} (ha : lets I a) (hb : lets I b) : lets I (a ++ b) := by
  intro c hc
  rcases List.mem_append.1 hc with h | h
  · exact ha c h
  · exact hb c h
theorem lets_flat {I : List (List UInt8)} (g : goodI I) {l : List UInt8} (h : lets I l) : lets I (l.flatMap (img I)) := by
  intro c hc
  rw [List.mem_flatMap] at hc
  obtain ⟨x, hx, hc⟩ := hc
  exact (g.1 _ (img_mem (h x hx).2)).2.2 c hc
theorem flat_len {I : List (List UInt8)} (g : goodI I) : ∀ {l : List UInt8}, lets I l → l.length ≤ (l.flatMap (img I)).length ∧ (l.flatMap (img I)).length ≤ 3 * l.length
  | [], _ => by simp
  | c :: l, h => by
    have h1 := flat_len g (l := l) (fun x hx => h x (List.mem_cons_of_mem _ hx))
    have h2 := g.1 _ (img_mem (h c (List.mem_cons_self ..)).2)
    rw [List.flatMap_cons, List.length_append, List.length_cons]
    omega
theorem flat_grows {I : List (List UInt8)} (g : goodI I) {l : List UInt8} (h : lets I l) (h0 : l.getD 0 0 = 97) (hl : 0 < l.length) : l.length < (l.flatMap (img I)).length ∧ (l.flatMap (img I)).getD 0 0 = 97 := by
  cases l with
  | nil => simp at hl
  | cons c l =>
    have hc : c = 97 := by simpa using h0
    subst hc
    have h1 := flat_len g (l := l) (fun x hx => h x (List.mem_cons_of_mem _ hx))
    have h2 : img I 97 = I.getD 0 [] := rfl
    have h3 := g.2.2.2.1
    have h4 := g.2.2.2.2
    rw [List.flatMap_cons, List.length_append, List.length_cons, h2]
    refine ⟨by omega, ?_⟩
    rw [List.getD_eq_getElem?_getD, List.getElem?_append_left (by omega), ← List.getD_eq_getElem?_getD]
    exact h4
theorem flat_take {I : List (List UInt8)} (l : List UInt8) (i : Nat) (h : i < l.length) : (l.take (i + 1)).flatMap (img I) = (l.take i).flatMap (img I) ++ img I (l[i]'h) := by
  rw [List.take_succ_eq_append_getElem h, List.flatMap_append]
  simp
def idOf (s : ByteArray) : Option Nat := if s.toList = [102, 105, 98, 111, 110, 97, 99, 99, 105] then some 0 else if s.toList = [116, 104, 117, 101] then some 1 else if s.toList = [100, 111, 117, 98, 108, 105, 110, 103] then some 2 else if s.toList = [116, 114, 105, 112, 108, 101] then some 3 else none
def namedR (s : ByteArray) (m : Int) : ByteArray × Int := if m < 0 ∨ 60 < m then (tE, 2) else match idOf s with
  | none => (tE, 4)
  | some d => (bt ((namedS d m.toNat).take m.toNat), 0)
theorem namedR_out {s : ByteArray} {m : Int} (h : m < 0 ∨ 60 < m) : namedR s m = (⟨#[]⟩, 2) := if_pos h
theorem namedR_none {s : ByteArray} {m : Int} (h : ¬ (m < 0 ∨ 60 < m)) (h2 : idOf s = none) : namedR s m = (⟨#[]⟩, 4) := by unfold namedR; rw [if_neg h, h2]; rfl
theorem namedR_some {s : ByteArray} {m : Nat} {d : Nat} (h : m ≤ 60) (h2 : idOf s = some d) : namedR s (m : Int) = (bt ((namedS d m).take m), 0) := by unfold namedR; rw [if_neg (by omega), h2]; rfl
/-- The five ways in which a name is looked up, as the comparisons come out. -/
def way (s : ByteArray) (d : Nat) : Prop := (s.toList == [102, 105, 98, 111, 110, 97, 99, 99, 105]) = decide (d = 0) ∧ (1 ≤ d → (s.toList == [116, 104, 117, 101]) = decide (d = 1)) ∧ (2 ≤ d → (s.toList == [100, 111, 117, 98, 108, 105, 110, 103]) = decide (d = 2)) ∧ (3 ≤ d → (s.toList == [116, 114, 105, 112, 108, 101]) = decide (d = 3))
theorem way_of (s : ByteArray) : (idOf s = none ∧ way s 4) ∨ ∃ d, d < 4 ∧ idOf s = some d ∧ way s d := by
  unfold idOf way
  by_cases h0 : s.toList = [102, 105, 98, 111, 110, 97, 99, 99, 105]
  · exact .inr ⟨0, by omega, by rw [if_pos h0], by simp [h0], fun h => by omega, fun h => by omega, fun h => by omega⟩
  · by_cases h1 : s.toList = [116, 104, 117, 101]
    · exact .inr ⟨1, by omega, by rw [if_neg h0, if_pos h1], by simp [h0], fun _ => by simp [h1], fun h => by omega, fun h => by omega⟩
    · by_cases h2 : s.toList = [100, 111, 117, 98, 108, 105, 110, 103]
      · exact .inr ⟨2, by omega, by rw [if_neg h0, if_neg h1, if_pos h2], by simp [h0], fun _ => by simp [h1], fun _ => by simp [h2], fun h => by omega⟩
      · by_cases h3 : s.toList = [116, 114, 105, 112, 108, 101]
        · exact .inr ⟨3, by omega, by rw [if_neg h0, if_neg h1, if_neg h2, if_pos h3], by simp [h0], fun _ => by simp [h1], fun _ => by simp [h2], fun _ => by simp [h3]⟩
        · exact .inl ⟨by rw [if_neg h0, if_neg h1, if_neg h2, if_neg h3], by simp [h0], fun _ => by simp [h1], fun _ => by simp [h2], fun _ => by simp [h3]⟩

end Go.Proofs.YtkemdiefoohdjabGreat

/-! ### Named -/
namespace Go.Proofs.YtkemdiefoohdjabGreat
set_option linter.unusedVariables false
set_option linter.unusedSimpArgs false
open Go.RowKit

def szOf : Value → Nat
  | .string t => t.size
  | _ => 0
theorem OwnS.rowS {w : World} {B : Nat} {v : Value} {I : List (List UInt8)} (h : OwnS w B v (I.map bt)) (hn : 0 < I.length) :
    ∃ g cap, v = .slice (some ⟨g, 0, none⟩) I.length cap ∧ g < w.heap.size ∧ I.length ≤ cap ∧ (∀ j (hj : j < I.length), w.cell? ⟨g, j, none⟩ = some (.string (bt (I[j]'hj)))) := by
  obtain ⟨g, cap, hv, _, hg, hc, _, cell, _⟩ := OwnS.row h (by simpa using hn)
  rw [List.length_map] at hv hc
  refine ⟨g, cap, hv, hg, hc, fun j hj => ?_⟩
  rw [cell j (by simpa using hj), List.getElem_map]


end Go.Proofs.YtkemdiefoohdjabGreat

/-! ### NamedS -/
namespace Go.Proofs.YtkemdiefoohdjabGreat
set_option linter.unusedVariables false
set_option linter.unusedSimpArgs false
open Go.RowKit

set_option maxRecDepth 100000 in
set_option maxHeartbeats 4000000 in
theorem l01Named_none (s : ByteArray) (m : Int) (w : World) (hw : way s 4) :
    Calls Tryz.prog 68 #[.string s, .int .i64 m] w fun e w' => e = .returned (.tuple #[.string ⟨#[]⟩, .bool false]) ∧ Below w.heap.size w w' := by
  obtain ⟨t0, t1, t2, t3⟩ := hw
  have t1 := t1 (by omega)
  have t2 := t2 (by omega)
  have t3 := t3 (by omega)
  rw [show decide (4 = 0) = false from rfl] at t0
  rw [show decide (4 = 1) = false from rfl] at t1
  rw [show decide (4 = 2) = false from rfl] at t2
  rw [show decide (4 = 3) = false from rfl] at t3
  go_enter Tryz.func68, Tryz.ntmps68
  go_wp2
  go_ret2
  exact ⟨rfl, Below.new _ _⟩

set_option maxRecDepth 100000 in
set_option maxHeartbeats 8000000 in
theorem l01Named_some (s : ByteArray) (m d : Nat) (w : World) (hd : d < 4) (hm : m ≤ 60) (hw : way s d) :
    Calls Tryz.prog 68 #[.string s, .int .i64 (m : Int)] w fun e w' => e = .returned (.tuple #[.string (bt ((namedS d m).take m)), .bool true]) ∧ Below w.heap.size w w' := by
  rcases (show d = 0 ∨ d = 1 ∨ d = 2 ∨ d = 3 by omega) with rfl | rfl | rfl | rfl
  · obtain ⟨t0, t1, t2, t3⟩ := hw
    clear t1 t2 t3
    simp at t0
    go_enter Tryz.func68, Tryz.ntmps68
    go_wp2_with fail
    obtain ⟨W1, hW1⟩ : ∃ W1 : World, W1 = (w.alloc (.cells #[] 9)).alloc (.cells #[.string ⟨#[97, 98]⟩, .string ⟨#[97]⟩] 9) := ⟨_, rfl⟩
    have o1 : OwnS W1 (w.heap.size + 1) (.slice (some ⟨w.heap.size + 1, 0, none⟩) 2 2) ((imgs 0).map bt) := by
      have h := World.ownsRow_lit (base := w.heap.size + 1) (size := 1) (w.alloc (.cells #[] 9)) #[.string ⟨#[97, 98]⟩, .string ⟨#[97]⟩] 2 (e := 9) (by simp) (by decide) rfl
      rw [show (w.alloc (.cells #[] 9)).heap.size = w.heap.size + 1 by simp] at h
      rw [hW1]
      exact h
    have B1 : Below w.heap.size w W1 := by rw [hW1]; exact (Below.new _ _).alloc (by simp) _
    have hsz1 : W1.heap.size = w.heap.size + 2 := by rw [hW1]; simp
    rw [← hW1]
    have HZ1 := Lib.hid hsz1
    have HG := Lib.hid (imgs_good 0 (by omega))
    have HI : Hid (specRun (imgs 0) m 60 [97] = namedS 0 m) := Lib.hid rfl
    have hIn : (imgs 0).length = 2 := rfl
    obtain ⟨g, cap, hv, hg, _, cell⟩ := o1.rowS (by rw [hIn]; omega)
    have hgv : g = w.heap.size + 1 := by injection hv with h1; injection h1 with h1; injection h1 with h1; exact h1.symm
    subst hgv
    have C := Lib.hid cell
    clear hW1 o1 cell hv hsz1 hg
    generalize hIm : imgs 0 = I at *
    have hIle : I.length ≤ 2 := by omega
    clear hIm hIn
    have hbz1 := B1.size
    have hgl : w.heap.size + 1 < W1.heap.size := by have := HZ1.out; omega
    go_wp2_with fail
    go_loopw [7] (fun o wr => ∃ (f : Nat) (l : List UInt8) (t : ByteArray), o = .string t ∧ Hid (t = bt l) ∧ Hid (t.size = l.length) ∧ t.size ≤ 180 ∧ 1 ≤ l.length ∧ m ≤ l.length + f ∧ Hid (lets I l) ∧ Hid (l.getD 0 0 = 97) ∧ Below W1.heap.size W1 wr ∧ Hid (specRun I m f l = namedS 0 m)) (fun o _ => m - szOf o)
    case atStart => exact ⟨60, [97], bt [97], rfl, Lib.hid rfl, Lib.hid rfl, by show 1 ≤ 180; omega, by show 1 ≤ 1; omega, by show m ≤ 1 + 60; omega, Lib.hid (fun c hc => by simp at hc; subst hc; have := HG.out.2.1; exact ⟨by decide, by show 97 - 97 < _; omega⟩), Lib.hid rfl, Below.refl _ _, HI⟩
    case round =>
      obtain ⟨f, l, t, rfl, HT, HS, ht180, hl1, hf, HL, H97, hB, HR⟩ := hrel
      obtain ⟨wo, rfl⟩ : ∃ wo : World, wo = wr := ⟨_, rfl⟩
      have hts := HS.out
      by_cases hlt : l.length < m
      · obtain ⟨f, rfl⟩ : ∃ k, f = k + 1 := ⟨f - 1, by omega⟩
        have hltm : (t.size : Int) < (m : Int) := by omega
        have hstep := specRun_step (I := I) (f := f) hlt
        have HST := Lib.hid hstep
        have hgr := flat_grows HG.out HL.out H97.out (by omega)
        have HGR := Lib.hid hgr
        have HLF := Lib.hid (lets_flat HG.out HL.out)
        have hfl := (flat_len HG.out HL.out).2
        have ht60 : t.size ≤ 60 := by omega
        clear hstep hgr
        go_wp2_with fail
        go_loopw [8, 9] (fun u q wr => ∃ (i : Nat) (r : ByteArray), q = .int .i64 i ∧ u = .string r ∧ Hid (r = bt ((l.take i).flatMap (img I))) ∧ r.size ≤ 3 * i ∧ i ≤ l.length ∧ Below W1.heap.size W1 wr) (fun _ q _ => l.length - (intOf q).toNat)
        case atStart => exact ⟨0, ⟨#[]⟩, rfl, rfl, Lib.hid rfl, by show 0 ≤ _; omega, Nat.zero_le _, hB⟩
        case round =>
          clear hB
          obtain ⟨i, r, rfl, rfl, HRR, hr3, hil, hB⟩ := hrel
          by_cases hi : i < l.length
          · have hit : i < t.size := by omega
            have hti : t[i]'hit = l[i]'hi := by
              have h2 : i < (bt l).size := hi
              have h3 : (bt l)[i]'h2 = l[i]'hi := rfl
              have h4 : t[i]'hit = (bt l)[i]'h2 := by
                have := HT.out
                subst this
                rfl
              rw [h4, h3]
            have hle := HL.out (l[i]'hi) (List.getElem_mem _)
            have hmem := img_mem hle.2
            have hgi := HG.out.1 _ hmem
            have hft := flat_take (I := I) l i hi
            have hcell := C.out _ hle.2
            rw [show I[(l[i]'hi).toNat - 97]'hle.2 = img I (l[i]'hi) by unfold img; rw [List.getD_eq_getElem?_getD, List.getElem?_eq_getElem hle.2]; rfl] at hcell
            rw [← hti] at hle hgi hcell hft
            generalize hrg : img I (t[i]'hit) = rr at *
            obtain ⟨a1, a2⟩ := hle
            obtain ⟨r1, r3, hrl⟩ := hgi
            obtain ⟨n, hn⟩ : ∃ n : Nat, ((t[i]'hit).toNat : Int) = (n : Int) + 97 := ⟨(t[i]'hit).toNat - 97, by omega⟩
            have hnn : (t[i]'hit).toNat - 97 = n := by omega
            rw [hnn] at hcell a2
            have E1 : Hid (((t[i]'hit).toNat : Int) - 97 = n) := Lib.hid (by omega)
            have hn2 : n < 2 := by omega
            have happ : r ++ bt rr = bt ((l.take (i + 1)).flatMap (img I)) := by rw [HRR.out, bt_app, hft]
            have hrs : (bt rr).size = rr.length := rfl
            have HAP := Lib.hid happ
            generalize hbr : bt rr = tr at *
            have htr : tr.size ≤ 3 := by omega
            have hasz : (r ++ tr).size = r.size + tr.size := ByteArray.size_append
            have HAS := Lib.hid hasz
            have HC := Lib.hid hcell
            clear hti hmem hft hrg hrl hnn happ hrs hbr hasz hn hcell
            go_wp2_with fail
            refine (l01At_any t i _ hit ht60).mono ?_
            rintro e w2 ⟨rfl, b2⟩
            rw [E1.out]
            have hB2 := hB.then b2
            have kc : w2.cell? ⟨w.heap.size + 1, n, none⟩ = some (.string tr) := by rw [(bcell hB2).1 _ n hgl]; exact HC.out
            go_wp2_with fail
            go_roundw
            case rel => exact ⟨i + 1, r ++ tr, by go_num, rfl, HAP, by have := HAS.out; omega, by omega, hB2⟩
            case measure => simp [intOf]; omega
          · have hE : i = l.length := by omega
            have HN : Hid (r = bt (l.flatMap (img I))) := Lib.hid (by rw [HRR.out, hE, List.take_of_length_le (Nat.le_refl _)])
            have hrz : r.size = (l.flatMap (img I)).length := by rw [HN.out]; rfl
            have HRZ := Lib.hid hrz
            clear hE hrz
            go_wp2_with fail
            go_roundw
            case rel =>
              have q1 := HRZ.out
              have q2 := HGR.out.1
              exact ⟨f, l.flatMap (img I), r, rfl, HN, HRZ, by omega, by omega, by omega, HLF, Lib.hid HGR.out.2, hB, Lib.hid (by rw [← HR.out, HST.out])⟩
            case measure =>
              have q1 := HRZ.out
              have q2 := HGR.out.1
              show m - r.size < m - t.size
              omega
      · have hR := HR.out
        rw [specRun_end hlt] at hR
        have hx : t.extract 0 m = bt ((namedS 0 m).take m) := by rw [HT.out, bt_take, hR]
        have HX := Lib.hid hx
        have hge : m ≤ t.size := by omega
        clear hR hx hlt
        go_wp2_with fail
        go_ret2
        exact ⟨by rw [← HX.out]; rfl, B1.then hB⟩
  · obtain ⟨t0, t1, t2, t3⟩ := hw
    have t1 := t1 (by omega)
    clear t2 t3
    simp at t0 t1
    go_enter Tryz.func68, Tryz.ntmps68
    go_wp2_with fail
    obtain ⟨W1, hW1⟩ : ∃ W1 : World, W1 = (w.alloc (.cells #[] 9)).alloc (.cells #[.string ⟨#[97, 98]⟩, .string ⟨#[98, 97]⟩] 9) := ⟨_, rfl⟩
    have o1 : OwnS W1 (w.heap.size + 1) (.slice (some ⟨w.heap.size + 1, 0, none⟩) 2 2) ((imgs 1).map bt) := by
      have h := World.ownsRow_lit (base := w.heap.size + 1) (size := 1) (w.alloc (.cells #[] 9)) #[.string ⟨#[97, 98]⟩, .string ⟨#[98, 97]⟩] 2 (e := 9) (by simp) (by decide) rfl
      rw [show (w.alloc (.cells #[] 9)).heap.size = w.heap.size + 1 by simp] at h
      rw [hW1]
      exact h
    have B1 : Below w.heap.size w W1 := by rw [hW1]; exact (Below.new _ _).alloc (by simp) _
    have hsz1 : W1.heap.size = w.heap.size + 2 := by rw [hW1]; simp
    rw [← hW1]
    have HZ1 := Lib.hid hsz1
    have HG := Lib.hid (imgs_good 1 (by omega))
    have HI : Hid (specRun (imgs 1) m 60 [97] = namedS 1 m) := Lib.hid rfl
    have hIn : (imgs 1).length = 2 := rfl
    obtain ⟨g, cap, hv, hg, _, cell⟩ := o1.rowS (by rw [hIn]; omega)
    have hgv : g = w.heap.size + 1 := by injection hv with h1; injection h1 with h1; injection h1 with h1; exact h1.symm
    subst hgv
    have C := Lib.hid cell
    clear hW1 o1 cell hv hsz1 hg
    generalize hIm : imgs 1 = I at *
    have hIle : I.length ≤ 2 := by omega
    clear hIm hIn
    have hbz1 := B1.size
    have hgl : w.heap.size + 1 < W1.heap.size := by have := HZ1.out; omega
    go_wp2_with fail
    go_loopw [7] (fun o wr => ∃ (f : Nat) (l : List UInt8) (t : ByteArray), o = .string t ∧ Hid (t = bt l) ∧ Hid (t.size = l.length) ∧ t.size ≤ 180 ∧ 1 ≤ l.length ∧ m ≤ l.length + f ∧ Hid (lets I l) ∧ Hid (l.getD 0 0 = 97) ∧ Below W1.heap.size W1 wr ∧ Hid (specRun I m f l = namedS 1 m)) (fun o _ => m - szOf o)
    case atStart => exact ⟨60, [97], bt [97], rfl, Lib.hid rfl, Lib.hid rfl, by show 1 ≤ 180; omega, by show 1 ≤ 1; omega, by show m ≤ 1 + 60; omega, Lib.hid (fun c hc => by simp at hc; subst hc; have := HG.out.2.1; exact ⟨by decide, by show 97 - 97 < _; omega⟩), Lib.hid rfl, Below.refl _ _, HI⟩
    case round =>
      obtain ⟨f, l, t, rfl, HT, HS, ht180, hl1, hf, HL, H97, hB, HR⟩ := hrel
      obtain ⟨wo, rfl⟩ : ∃ wo : World, wo = wr := ⟨_, rfl⟩
      have hts := HS.out
      by_cases hlt : l.length < m
      · obtain ⟨f, rfl⟩ : ∃ k, f = k + 1 := ⟨f - 1, by omega⟩
        have hltm : (t.size : Int) < (m : Int) := by omega
        have hstep := specRun_step (I := I) (f := f) hlt
        have HST := Lib.hid hstep
        have hgr := flat_grows HG.out HL.out H97.out (by omega)
        have HGR := Lib.hid hgr
        have HLF := Lib.hid (lets_flat HG.out HL.out)
        have hfl := (flat_len HG.out HL.out).2
        have ht60 : t.size ≤ 60 := by omega
        clear hstep hgr
        go_wp2_with fail
        go_loopw [8, 9] (fun u q wr => ∃ (i : Nat) (r : ByteArray), q = .int .i64 i ∧ u = .string r ∧ Hid (r = bt ((l.take i).flatMap (img I))) ∧ r.size ≤ 3 * i ∧ i ≤ l.length ∧ Below W1.heap.size W1 wr) (fun _ q _ => l.length - (intOf q).toNat)
        case atStart => exact ⟨0, ⟨#[]⟩, rfl, rfl, Lib.hid rfl, by show 0 ≤ _; omega, Nat.zero_le _, hB⟩
        case round =>
          clear hB
          obtain ⟨i, r, rfl, rfl, HRR, hr3, hil, hB⟩ := hrel
          by_cases hi : i < l.length
          · have hit : i < t.size := by omega
            have hti : t[i]'hit = l[i]'hi := by
              have h2 : i < (bt l).size := hi
              have h3 : (bt l)[i]'h2 = l[i]'hi := rfl
              have h4 : t[i]'hit = (bt l)[i]'h2 := by
                have := HT.out
                subst this
                rfl
              rw [h4, h3]
            have hle := HL.out (l[i]'hi) (List.getElem_mem _)
            have hmem := img_mem hle.2
            have hgi := HG.out.1 _ hmem
            have hft := flat_take (I := I) l i hi
            have hcell := C.out _ hle.2
            rw [show I[(l[i]'hi).toNat - 97]'hle.2 = img I (l[i]'hi) by unfold img; rw [List.getD_eq_getElem?_getD, List.getElem?_eq_getElem hle.2]; rfl] at hcell
            rw [← hti] at hle hgi hcell hft
            generalize hrg : img I (t[i]'hit) = rr at *
            obtain ⟨a1, a2⟩ := hle
            obtain ⟨r1, r3, hrl⟩ := hgi
            obtain ⟨n, hn⟩ : ∃ n : Nat, ((t[i]'hit).toNat : Int) = (n : Int) + 97 := ⟨(t[i]'hit).toNat - 97, by omega⟩
            have hnn : (t[i]'hit).toNat - 97 = n := by omega
            rw [hnn] at hcell a2
            have E1 : Hid (((t[i]'hit).toNat : Int) - 97 = n) := Lib.hid (by omega)
            have hn2 : n < 2 := by omega
            have happ : r ++ bt rr = bt ((l.take (i + 1)).flatMap (img I)) := by rw [HRR.out, bt_app, hft]
            have hrs : (bt rr).size = rr.length := rfl
            have HAP := Lib.hid happ
            generalize hbr : bt rr = tr at *
            have htr : tr.size ≤ 3 := by omega
            have hasz : (r ++ tr).size = r.size + tr.size := ByteArray.size_append
            have HAS := Lib.hid hasz
            have HC := Lib.hid hcell
            clear hti hmem hft hrg hrl hnn happ hrs hbr hasz hn hcell
            go_wp2_with fail
            refine (l01At_any t i _ hit ht60).mono ?_
            rintro e w2 ⟨rfl, b2⟩
            rw [E1.out]
            have hB2 := hB.then b2
            have kc : w2.cell? ⟨w.heap.size + 1, n, none⟩ = some (.string tr) := by rw [(bcell hB2).1 _ n hgl]; exact HC.out
            go_wp2_with fail
            go_roundw
            case rel => exact ⟨i + 1, r ++ tr, by go_num, rfl, HAP, by have := HAS.out; omega, by omega, hB2⟩
            case measure => simp [intOf]; omega
          · have hE : i = l.length := by omega
            have HN : Hid (r = bt (l.flatMap (img I))) := Lib.hid (by rw [HRR.out, hE, List.take_of_length_le (Nat.le_refl _)])
            have hrz : r.size = (l.flatMap (img I)).length := by rw [HN.out]; rfl
            have HRZ := Lib.hid hrz
            clear hE hrz
            go_wp2_with fail
            go_roundw
            case rel =>
              have q1 := HRZ.out
              have q2 := HGR.out.1
              exact ⟨f, l.flatMap (img I), r, rfl, HN, HRZ, by omega, by omega, by omega, HLF, Lib.hid HGR.out.2, hB, Lib.hid (by rw [← HR.out, HST.out])⟩
            case measure =>
              have q1 := HRZ.out
              have q2 := HGR.out.1
              show m - r.size < m - t.size
              omega
      · have hR := HR.out
        rw [specRun_end hlt] at hR
        have hx : t.extract 0 m = bt ((namedS 1 m).take m) := by rw [HT.out, bt_take, hR]
        have HX := Lib.hid hx
        have hge : m ≤ t.size := by omega
        clear hR hx hlt
        go_wp2_with fail
        go_ret2
        exact ⟨by rw [← HX.out]; rfl, B1.then hB⟩
  · obtain ⟨t0, t1, t2, t3⟩ := hw
    have t1 := t1 (by omega)
    have t2 := t2 (by omega)
    clear t3
    simp at t0 t1 t2
    go_enter Tryz.func68, Tryz.ntmps68
    go_wp2_with fail
    obtain ⟨W1, hW1⟩ : ∃ W1 : World, W1 = (w.alloc (.cells #[] 9)).alloc (.cells #[.string ⟨#[97, 98]⟩, .string ⟨#[97, 97]⟩] 9) := ⟨_, rfl⟩
    have o1 : OwnS W1 (w.heap.size + 1) (.slice (some ⟨w.heap.size + 1, 0, none⟩) 2 2) ((imgs 2).map bt) := by
      have h := World.ownsRow_lit (base := w.heap.size + 1) (size := 1) (w.alloc (.cells #[] 9)) #[.string ⟨#[97, 98]⟩, .string ⟨#[97, 97]⟩] 2 (e := 9) (by simp) (by decide) rfl
      rw [show (w.alloc (.cells #[] 9)).heap.size = w.heap.size + 1 by simp] at h
      rw [hW1]
      exact h
    have B1 : Below w.heap.size w W1 := by rw [hW1]; exact (Below.new _ _).alloc (by simp) _
    have hsz1 : W1.heap.size = w.heap.size + 2 := by rw [hW1]; simp
    rw [← hW1]
    have HZ1 := Lib.hid hsz1
    have HG := Lib.hid (imgs_good 2 (by omega))
    have HI : Hid (specRun (imgs 2) m 60 [97] = namedS 2 m) := Lib.hid rfl
    have hIn : (imgs 2).length = 2 := rfl
    obtain ⟨g, cap, hv, hg, _, cell⟩ := o1.rowS (by rw [hIn]; omega)
    have hgv : g = w.heap.size + 1 := by injection hv with h1; injection h1 with h1; injection h1 with h1; exact h1.symm
    subst hgv
    have C := Lib.hid cell
    clear hW1 o1 cell hv hsz1 hg
    generalize hIm : imgs 2 = I at *
    have hIle : I.length ≤ 2 := by omega
    clear hIm hIn
    have hbz1 := B1.size
    have hgl : w.heap.size + 1 < W1.heap.size := by have := HZ1.out; omega
    go_wp2_with fail
    go_loopw [7] (fun o wr => ∃ (f : Nat) (l : List UInt8) (t : ByteArray), o = .string t ∧ Hid (t = bt l) ∧ Hid (t.size = l.length) ∧ t.size ≤ 180 ∧ 1 ≤ l.length ∧ m ≤ l.length + f ∧ Hid (lets I l) ∧ Hid (l.getD 0 0 = 97) ∧ Below W1.heap.size W1 wr ∧ Hid (specRun I m f l = namedS 2 m)) (fun o _ => m - szOf o)
    case atStart => exact ⟨60, [97], bt [97], rfl, Lib.hid rfl, Lib.hid rfl, by show 1 ≤ 180; omega, by show 1 ≤ 1; omega, by show m ≤ 1 + 60; omega, Lib.hid (fun c hc => by simp at hc; subst hc; have := HG.out.2.1; exact ⟨by decide, by show 97 - 97 < _; omega⟩), Lib.hid rfl, Below.refl _ _, HI⟩
    case round =>
      obtain ⟨f, l, t, rfl, HT, HS, ht180, hl1, hf, HL, H97, hB, HR⟩ := hrel
      obtain ⟨wo, rfl⟩ : ∃ wo : World, wo = wr := ⟨_, rfl⟩
      have hts := HS.out
      by_cases hlt : l.length < m
      · obtain ⟨f, rfl⟩ : ∃ k, f = k + 1 := ⟨f - 1, by omega⟩
        have hltm : (t.size : Int) < (m : Int) := by omega
        have hstep := specRun_step (I := I) (f := f) hlt
        have HST := Lib.hid hstep
        have hgr := flat_grows HG.out HL.out H97.out (by omega)
        have HGR := Lib.hid hgr
        have HLF := Lib.hid (lets_flat HG.out HL.out)
        have hfl := (flat_len HG.out HL.out).2
        have ht60 : t.size ≤ 60 := by omega
        clear hstep hgr
        go_wp2_with fail
        go_loopw [8, 9] (fun u q wr => ∃ (i : Nat) (r : ByteArray), q = .int .i64 i ∧ u = .string r ∧ Hid (r = bt ((l.take i).flatMap (img I))) ∧ r.size ≤ 3 * i ∧ i ≤ l.length ∧ Below W1.heap.size W1 wr) (fun _ q _ => l.length - (intOf q).toNat)
        case atStart => exact ⟨0, ⟨#[]⟩, rfl, rfl, Lib.hid rfl, by show 0 ≤ _; omega, Nat.zero_le _, hB⟩
        case round =>
          clear hB
          obtain ⟨i, r, rfl, rfl, HRR, hr3, hil, hB⟩ := hrel
          by_cases hi : i < l.length
          · have hit : i < t.size := by omega
            have hti : t[i]'hit = l[i]'hi := by
              have h2 : i < (bt l).size := hi
              have h3 : (bt l)[i]'h2 = l[i]'hi := rfl
              have h4 : t[i]'hit = (bt l)[i]'h2 := by
                have := HT.out
                subst this
                rfl
              rw [h4, h3]
            have hle := HL.out (l[i]'hi) (List.getElem_mem _)
            have hmem := img_mem hle.2
            have hgi := HG.out.1 _ hmem
            have hft := flat_take (I := I) l i hi
            have hcell := C.out _ hle.2
            rw [show I[(l[i]'hi).toNat - 97]'hle.2 = img I (l[i]'hi) by unfold img; rw [List.getD_eq_getElem?_getD, List.getElem?_eq_getElem hle.2]; rfl] at hcell
            rw [← hti] at hle hgi hcell hft
            generalize hrg : img I (t[i]'hit) = rr at *
            obtain ⟨a1, a2⟩ := hle
            obtain ⟨r1, r3, hrl⟩ := hgi
            obtain ⟨n, hn⟩ : ∃ n : Nat, ((t[i]'hit).toNat : Int) = (n : Int) + 97 := ⟨(t[i]'hit).toNat - 97, by omega⟩
            have hnn : (t[i]'hit).toNat - 97 = n := by omega
            rw [hnn] at hcell a2
            have E1 : Hid (((t[i]'hit).toNat : Int) - 97 = n) := Lib.hid (by omega)
            have hn2 : n < 2 := by omega
            have happ : r ++ bt rr = bt ((l.take (i + 1)).flatMap (img I)) := by rw [HRR.out, bt_app, hft]
            have hrs : (bt rr).size = rr.length := rfl
            have HAP := Lib.hid happ
            generalize hbr : bt rr = tr at *
            have htr : tr.size ≤ 3 := by omega
            have hasz : (r ++ tr).size = r.size + tr.size := ByteArray.size_append
            have HAS := Lib.hid hasz
            have HC := Lib.hid hcell
            clear hti hmem hft hrg hrl hnn happ hrs hbr hasz hn hcell
            go_wp2_with fail
            refine (l01At_any t i _ hit ht60).mono ?_
            rintro e w2 ⟨rfl, b2⟩
            rw [E1.out]
            have hB2 := hB.then b2
            have kc : w2.cell? ⟨w.heap.size + 1, n, none⟩ = some (.string tr) := by rw [(bcell hB2).1 _ n hgl]; exact HC.out
            go_wp2_with fail
            go_roundw
            case rel => exact ⟨i + 1, r ++ tr, by go_num, rfl, HAP, by have := HAS.out; omega, by omega, hB2⟩
            case measure => simp [intOf]; omega
          · have hE : i = l.length := by omega
            have HN : Hid (r = bt (l.flatMap (img I))) := Lib.hid (by rw [HRR.out, hE, List.take_of_length_le (Nat.le_refl _)])
            have hrz : r.size = (l.flatMap (img I)).length := by rw [HN.out]; rfl
            have HRZ := Lib.hid hrz
            clear hE hrz
            go_wp2_with fail
            go_roundw
            case rel =>
              have q1 := HRZ.out
              have q2 := HGR.out.1
              exact ⟨f, l.flatMap (img I), r, rfl, HN, HRZ, by omega, by omega, by omega, HLF, Lib.hid HGR.out.2, hB, Lib.hid (by rw [← HR.out, HST.out])⟩
            case measure =>
              have q1 := HRZ.out
              have q2 := HGR.out.1
              show m - r.size < m - t.size
              omega
      · have hR := HR.out
        rw [specRun_end hlt] at hR
        have hx : t.extract 0 m = bt ((namedS 2 m).take m) := by rw [HT.out, bt_take, hR]
        have HX := Lib.hid hx
        have hge : m ≤ t.size := by omega
        clear hR hx hlt
        go_wp2_with fail
        go_ret2
        exact ⟨by rw [← HX.out]; rfl, B1.then hB⟩
  · obtain ⟨t0, t1, t2, t3⟩ := hw
    have t1 := t1 (by omega)
    have t2 := t2 (by omega)
    have t3 := t3 (by omega)
    simp at t0 t1 t2 t3
    go_enter Tryz.func68, Tryz.ntmps68
    go_wp2_with fail
    obtain ⟨W1, hW1⟩ : ∃ W1 : World, W1 = (w.alloc (.cells #[] 9)).alloc (.cells #[.string ⟨#[97, 98, 99]⟩, .string ⟨#[97, 99]⟩, .string ⟨#[98]⟩] 9) := ⟨_, rfl⟩
    have o1 : OwnS W1 (w.heap.size + 1) (.slice (some ⟨w.heap.size + 1, 0, none⟩) 3 3) ((imgs 3).map bt) := by
      have h := World.ownsRow_lit (base := w.heap.size + 1) (size := 1) (w.alloc (.cells #[] 9)) #[.string ⟨#[97, 98, 99]⟩, .string ⟨#[97, 99]⟩, .string ⟨#[98]⟩] 3 (e := 9) (by simp) (by decide) rfl
      rw [show (w.alloc (.cells #[] 9)).heap.size = w.heap.size + 1 by simp] at h
      rw [hW1]
      exact h
    have B1 : Below w.heap.size w W1 := by rw [hW1]; exact (Below.new _ _).alloc (by simp) _
    have hsz1 : W1.heap.size = w.heap.size + 2 := by rw [hW1]; simp
    rw [← hW1]
    have HZ1 := Lib.hid hsz1
    have HG := Lib.hid (imgs_good 3 (by omega))
    have HI : Hid (specRun (imgs 3) m 60 [97] = namedS 3 m) := Lib.hid rfl
    have hIn : (imgs 3).length = 3 := rfl
    obtain ⟨g, cap, hv, hg, _, cell⟩ := o1.rowS (by rw [hIn]; omega)
    have hgv : g = w.heap.size + 1 := by injection hv with h1; injection h1 with h1; injection h1 with h1; exact h1.symm
    subst hgv
    have C := Lib.hid cell
    clear hW1 o1 cell hv hsz1 hg
    generalize hIm : imgs 3 = I at *
    have hIle : I.length ≤ 3 := by omega
    clear hIm hIn
    have hbz1 := B1.size
    have hgl : w.heap.size + 1 < W1.heap.size := by have := HZ1.out; omega
    go_wp2_with fail
    go_loopw [7] (fun o wr => ∃ (f : Nat) (l : List UInt8) (t : ByteArray), o = .string t ∧ Hid (t = bt l) ∧ Hid (t.size = l.length) ∧ t.size ≤ 180 ∧ 1 ≤ l.length ∧ m ≤ l.length + f ∧ Hid (lets I l) ∧ Hid (l.getD 0 0 = 97) ∧ Below W1.heap.size W1 wr ∧ Hid (specRun I m f l = namedS 3 m)) (fun o _ => m - szOf o)
    case atStart => exact ⟨60, [97], bt [97], rfl, Lib.hid rfl, Lib.hid rfl, by show 1 ≤ 180; omega, by show 1 ≤ 1; omega, by show m ≤ 1 + 60; omega, Lib.hid (fun c hc => by simp at hc; subst hc; have := HG.out.2.1; exact ⟨by decide, by show 97 - 97 < _; omega⟩), Lib.hid rfl, Below.refl _ _, HI⟩
    case round =>
      obtain ⟨f, l, t, rfl, HT, HS, ht180, hl1, hf, HL, H97, hB, HR⟩ := hrel
      obtain ⟨wo, rfl⟩ : ∃ wo : World, wo = wr := ⟨_, rfl⟩
      have hts := HS.out
      by_cases hlt : l.length < m
      · obtain ⟨f, rfl⟩ : ∃ k, f = k + 1 := ⟨f - 1, by omega⟩
        have hltm : (t.size : Int) < (m : Int) := by omega
        have hstep := specRun_step (I := I) (f := f) hlt
        have HST := Lib.hid hstep
        have hgr := flat_grows HG.out HL.out H97.out (by omega)
        have HGR := Lib.hid hgr
        have HLF := Lib.hid (lets_flat HG.out HL.out)
        have hfl := (flat_len HG.out HL.out).2
        have ht60 : t.size ≤ 60 := by omega
        clear hstep hgr
        go_wp2_with fail
        go_loopw [8, 9] (fun u q wr => ∃ (i : Nat) (r : ByteArray), q = .int .i64 i ∧ u = .string r ∧ Hid (r = bt ((l.take i).flatMap (img I))) ∧ r.size ≤ 3 * i ∧ i ≤ l.length ∧ Below W1.heap.size W1 wr) (fun _ q _ => l.length - (intOf q).toNat)
        case atStart => exact ⟨0, ⟨#[]⟩, rfl, rfl, Lib.hid rfl, by show 0 ≤ _; omega, Nat.zero_le _, hB⟩
        case round =>
          clear hB
          obtain ⟨i, r, rfl, rfl, HRR, hr3, hil, hB⟩ := hrel
          by_cases hi : i < l.length
          · have hit : i < t.size := by omega
            have hti : t[i]'hit = l[i]'hi := by
              have h2 : i < (bt l).size := hi
              have h3 : (bt l)[i]'h2 = l[i]'hi := rfl
              have h4 : t[i]'hit = (bt l)[i]'h2 := by
                have := HT.out
                subst this
                rfl
              rw [h4, h3]
            have hle := HL.out (l[i]'hi) (List.getElem_mem _)
            have hmem := img_mem hle.2
            have hgi := HG.out.1 _ hmem
            have hft := flat_take (I := I) l i hi
            have hcell := C.out _ hle.2
            rw [show I[(l[i]'hi).toNat - 97]'hle.2 = img I (l[i]'hi) by unfold img; rw [List.getD_eq_getElem?_getD, List.getElem?_eq_getElem hle.2]; rfl] at hcell
            rw [← hti] at hle hgi hcell hft
            generalize hrg : img I (t[i]'hit) = rr at *
            obtain ⟨a1, a2⟩ := hle
            obtain ⟨r1, r3, hrl⟩ := hgi
            obtain ⟨n, hn⟩ : ∃ n : Nat, ((t[i]'hit).toNat : Int) = (n : Int) + 97 := ⟨(t[i]'hit).toNat - 97, by omega⟩
            have hnn : (t[i]'hit).toNat - 97 = n := by omega
            rw [hnn] at hcell a2
            have E1 : Hid (((t[i]'hit).toNat : Int) - 97 = n) := Lib.hid (by omega)
            have hn2 : n < 3 := by omega
            have happ : r ++ bt rr = bt ((l.take (i + 1)).flatMap (img I)) := by rw [HRR.out, bt_app, hft]
            have hrs : (bt rr).size = rr.length := rfl
            have HAP := Lib.hid happ
            generalize hbr : bt rr = tr at *
            have htr : tr.size ≤ 3 := by omega
            have hasz : (r ++ tr).size = r.size + tr.size := ByteArray.size_append
            have HAS := Lib.hid hasz
            have HC := Lib.hid hcell
            clear hti hmem hft hrg hrl hnn happ hrs hbr hasz hn hcell
            go_wp2_with fail
            refine (l01At_any t i _ hit ht60).mono ?_
            rintro e w2 ⟨rfl, b2⟩
            rw [E1.out]
            have hB2 := hB.then b2
            have kc : w2.cell? ⟨w.heap.size + 1, n, none⟩ = some (.string tr) := by rw [(bcell hB2).1 _ n hgl]; exact HC.out
            go_wp2_with fail
            go_roundw
            case rel => exact ⟨i + 1, r ++ tr, by go_num, rfl, HAP, by have := HAS.out; omega, by omega, hB2⟩
            case measure => simp [intOf]; omega
          · have hE : i = l.length := by omega
            have HN : Hid (r = bt (l.flatMap (img I))) := Lib.hid (by rw [HRR.out, hE, List.take_of_length_le (Nat.le_refl _)])
            have hrz : r.size = (l.flatMap (img I)).length := by rw [HN.out]; rfl
            have HRZ := Lib.hid hrz
            clear hE hrz
            go_wp2_with fail
            go_roundw
            case rel =>
              have q1 := HRZ.out
              have q2 := HGR.out.1
              exact ⟨f, l.flatMap (img I), r, rfl, HN, HRZ, by omega, by omega, by omega, HLF, Lib.hid HGR.out.2, hB, Lib.hid (by rw [← HR.out, HST.out])⟩
            case measure =>
              have q1 := HRZ.out
              have q2 := HGR.out.1
              show m - r.size < m - t.size
              omega
      · have hR := HR.out
        rw [specRun_end hlt] at hR
        have hx : t.extract 0 m = bt ((namedS 3 m).take m) := by rw [HT.out, bt_take, hR]
        have HX := Lib.hid hx
        have hge : m ≤ t.size := by omega
        clear hR hx hlt
        go_wp2_with fail
        go_ret2
        exact ⟨by rw [← HX.out]; rfl, B1.then hB⟩

end Go.Proofs.YtkemdiefoohdjabGreat

/-! ### Draw3 -/
namespace Go.Proofs.YtkemdiefoohdjabGreat
set_option linter.unusedVariables false
set_option linter.unusedSimpArgs false
open Go.RowKit

def namesL : List ByteArray := [⟨#[102, 105, 98, 111, 110, 97, 99, 99, 105]⟩, ⟨#[116, 104, 117, 101]⟩, ⟨#[100, 111, 117, 98, 108, 105, 110, 103]⟩, ⟨#[116, 114, 105, 112, 108, 101]⟩]
theorem namesL_way : ∀ j (h : j < namesL.length), way (namesL[j]'h) j := by
  intro j h
  match j, h with
  | 0, _ | 1, _ | 2, _ | 3, _ =>
    unfold way
    simp only [ByteArray.toList_eq, namesL, List.getElem_cons_zero, List.getElem_cons_succ]
    decide
  | j + 4, h => simp [namesL] at h; omega

set_option maxRecDepth 100000 in
theorem l01Names_any (w : World) :
    Calls Tryz.prog 88 #[] w fun e w' => e = .returned (.slice (some ⟨w.heap.size, 0, none⟩) 4 4) ∧ w' = w.alloc (.cells (namesL.map Value.string).toArray 9) := by
  go_enter Tryz.func88, Tryz.ntmps88
  go_wp2
  go_ret
  exact ⟨rfl, rfl⟩

theorem names_alloc {W : World} {g : Nat} {o : Obj} (h : ∀ j (h : j < namesL.length), W.cell? ⟨g, j, none⟩ = some (.string (namesL[j]'h))) (hg : g < W.heap.size) : ∀ j (h : j < namesL.length), (W.alloc o).cell? ⟨g, j, none⟩ = some (.string (namesL[j]'h)) := fun j hj => by
  rw [(Below.new W o).cell (p := ⟨g, j, none⟩) hg]; exact h j hj
theorem names_grown {W W' : World} {g b : Nat} (h : ∀ j (h : j < namesL.length), W.cell? ⟨g, j, none⟩ = some (.string (namesL[j]'h))) (hg : g < W.heap.size) (hb : g ≠ b) (k : W.grownBy W' (some b)) : ∀ j (h : j < namesL.length), W'.cell? ⟨g, j, none⟩ = some (.string (namesL[j]'h)) := fun j hj => by
  rw [grown_cell k (p := ⟨g, j, none⟩) hg (fun e => hb (Option.some.inj e))]; exact h j hj

set_option maxRecDepth 100000 in
set_option maxHeartbeats 4000000 in
theorem l01Draw_any (w0 W : World) (b : Nat) (hS : Src w0 W b) (hB : Below w0.heap.size w0 W) :
    Calls Tryz.prog 72 #[.pointer (some ⟨b, 0, none⟩)] W (DrawnT 60 w0 W b) := by
  have HB0 := hS.ge
  have CN := Lib.hid (l01Next_i w0 W b 6 hS hB (by omega) (by omega))
  clear hS
  go_enter Tryz.func72, Tryz.ntmps72
  go_wp2_with fail
  refine CN.out.mono ?_
  rintro e W1 ⟨v, rfl, v0, v1, s1, g1⟩
  have hB1 := below_src hB HB0 g1
  have hbl := s1.lt
  by_cases h0 : v = 0
  · subst h0
    go_wp2_with fail
    refine (l01Names_any _).mono ?_
    rintro e W2 ⟨rfl, hW2⟩
    have s2 : Src w0 W2 b := by rw [hW2]; exact s1.below (Below.new _ _)
    have hB2 : Below w0.heap.size w0 W2 := by rw [hW2]; exact hB1.alloc hB1.size _
    have g2 : W1.grownBy W2 (some b) := by rw [hW2]; exact grown_of_below (Below.new _ _) _
    have hcn : ∀ j (h : j < namesL.length), W2.cell? ⟨W1.heap.size, j, none⟩ = some (.string (namesL[j]'h)) := by rw [hW2]; exact cells_new_strs W1 namesL 9
    have hz2 : W1.heap.size < W2.heap.size := by rw [hW2]; simp
    have hgb : W1.heap.size ≠ b := by omega
    have hcD : ∀ j (h : j < namesL.length), W2.drew.cell? ⟨W1.heap.size, j, none⟩ = some (.string (namesL[j]'h)) := hcn
    have HW := Lib.hid namesL_way
    have hcE : ∀ j (h : j < namesL.length), (W2.alloc (.cells #[.int .i64 12, .int .i64 30, .int .i64 61] 2)).drew.cell? ⟨W1.heap.size, j, none⟩ = some (.string (namesL[j]'h)) := names_alloc hcn hz2
    have hLE : ∀ j (h : j < [12, 30, 61].length), (W2.alloc (.cells #[.int .i64 12, .int .i64 30, .int .i64 61] 2)).drew.cell? ⟨W2.heap.size, j, none⟩ = some (.int .i64 ([12, 30, 61][j]'h)) := cells_new_ints W2 [12, 30, 61] 2
    have hzE : (W2.alloc (.cells #[.int .i64 12, .int .i64 30, .int .i64 61] 2)).drew.heap.size = W2.heap.size + 1 := by show (W2.alloc _).heap.size = _; simp
    have hBE : Below w0.heap.size w0 (W2.alloc (.cells #[.int .i64 12, .int .i64 30, .int .i64 61] 2)).drew := (hB2.alloc hB2.size _).drew
    have hb2l := s2.lt
    clear hW2 CN hcn
    have hz2d : W1.heap.size < W2.drew.heap.size := hz2
    generalize hgg : W1.heap.size = gn at *
    go_wp2_with fail
    go_region_held3 (fun w' => ∀ j (h : j < namesL.length), w'.cell? ⟨gn, j, none⟩ = some (.string (namesL[j]'h))) (first | assumption | exact names_alloc (by assumption) (by first | omega | (simp; omega)))
     (first
      | (go_at_call 66; refine CC.out.mono ?_; clear CC; rintro e Wc ⟨vc, rfl, vc0, vc1, sc, gc⟩; obtain ⟨q, rfl⟩ := Int.eq_ofNat_of_zero_le vc0; have kc := names_grown kb hzb hgb gc; have hzc : gn < Wc.heap.size := Nat.lt_of_lt_of_le hzb gc.size; have CD := Lib.hid (l01Named_some (namesL[m]'hm) q m Wc (by omega) (by omega) (HW.out m hm)))
      | (go_at_call 66; refine (l01Next_i w0 _ b 4 (by first | exact s2 | exact s2.below (Below.new _ _).drew) (by first | exact hB2.drew | exact hBE) (by omega) (by omega)).mono ?_; rintro e Wa ⟨va, rfl, va0, va1, sa, ga⟩; have ka := names_grown (by first | exact hcD | exact hcE) (by first | exact hz2d | (rw [hzE]; omega)) hgb ga; have hba := below_src (by first | exact hB2.drew | exact hBE) HB0 ga; have hza : gn < Wa.heap.size := (by have h := ga.size; first | exact Nat.lt_of_lt_of_le hz2d h | (rw [hzE] at h; omega)); (first | (have hza2 : W2.heap.size < Wa.heap.size := (by have h := ga.size; rw [hzE] at h; omega); have hla : ∀ j (h : j < [12, 30, 61].length), Wa.cell? ⟨W2.heap.size, j, none⟩ = some (.int .i64 ([12, 30, 61][j]'h)) := (fun j hj => by rw [grown_cell ga (p := ⟨W2.heap.size, j, none⟩) (by show W2.heap.size < _; rw [hzE]; omega) (fun e => by have h : W2.heap.size = b := Option.some.inj e; omega)]; exact hLE j hj)) | skip); have gA : W2.grownBy Wa (some b) := (by first | exact ⟨ga.os, ga.tape, ga.output, ga.size, ga.block⟩ | exact grown_trans (grown_of_below ((Below.new W2 _).drew) _) ga); obtain ⟨m, rfl⟩ := Int.eq_ofNat_of_zero_le va0; have hm : m < namesL.length := (by simp [namesL]; omega); have hm4 : (m : Int) < 4 := (by omega))
      | (go_at_call 47; refine (l01Pick_any w0 Wa b W2.heap.size [12, 30, 61] sa hba hza2 (by omega) (by decide) (by decide) hla).mono ?_; rintro e Wb ⟨pb, rfl, hpb, sb, gb⟩; have hpb2 : 1 ≤ pb ∧ pb ≤ 61 := (by simp at hpb; omega); clear hpb; have gB : Wa.grownBy Wb (some b) := gb; have kb := names_grown ka hza hgb gb; have hbb := below_src hba HB0 gb; have hzb : gn < Wb.heap.size := (by have h := gb.size; omega); have CC := Lib.hid (l01Next_i w0 Wb b pb sb hbb hpb2.1 (by omega)))
      | (go_at_call 47; refine (l01Pick_any w0 _ b _ [12, 30, 61] (sa.below (Below.new _ _)) (hba.alloc hba.size _) (by simp) (by have := sa.lt; omega) (by decide) (by decide) (cells_new_ints Wa [12, 30, 61] _)).mono ?_; rintro e Wb ⟨pb, rfl, hpb, sb, gb⟩; have hpb2 : 1 ≤ pb ∧ pb ≤ 61 := (by simp at hpb; omega); clear hpb; have gB : Wa.grownBy Wb (some b) := grown_trans (grown_of_below (Below.new Wa _) _) gb; have kb := names_grown (names_alloc (o := .cells ([12, 30, 61].map (Value.int .i64)).toArray 2) ka hza) (by rw [World.size_alloc]; omega) hgb gb; have hbb := below_src (hba.alloc hba.size _) HB0 gb; have hzb : gn < Wb.heap.size := (by have h := gb.size; rw [World.size_alloc] at h; omega); have CC := Lib.hid (l01Next_i w0 Wb b pb sb hbb hpb2.1 (by omega)))
      | (go_at_call 68; refine CD.out.mono ?_; rintro e Wd ⟨rfl, bd⟩; have kd : ∀ j (h : j < namesL.length), Wd.cell? ⟨gn, j, none⟩ = some (.string (namesL[j]'h)) := fun j hj => (bd.cell (p := ⟨gn, j, none⟩) hzc).trans (kc j hj)))
    all_goals
      have hq60 : (bt ((namedS m q).take q)).size ≤ 60 := by rw [bt_size, List.length_take]; omega
      have gE := grown_trans (grown_trans (grown_trans (grown_trans (grown_trans g1 g2) gA) gB) gc) (grown_of_below bd (some b))
      have sE := sc.below bd
      go_wp2
      go_ret
      exact ⟨_, rfl, hq60, sE, gE⟩
  · by_cases h1 : v = 1
    · subst h1
      have CK := Lib.hid (l01Next_i w0 W1 b 6 s1 hB1 (by omega) (by omega))
      go_wp2_with fail
      refine CK.out.mono ?_
      rintro e W2 ⟨k, rfl, k0, k1, s2, g2⟩
      have hB2 := below_src hB1 HB0 g2
      have hbl2 := s2.lt
      go_wp2_with fail
      refine (l01Pick_any w0 _ b _ [2, 2, 3] (s2.below (Below.new _ _)) (hB2.alloc hB2.size _) (by simp) (by omega) (by decide) (by decide) (cells_new_ints W2 [2, 2, 3] _)).mono ?_
      rintro e W3 ⟨z, rfl, hz, s3, g3⟩
      have hz2 : 1 ≤ z ∧ z ≤ 5 := by simp at hz; omega
      have hB3 := below_src (hB2.alloc hB2.size _) HB0 g3
      have G3 := grown_trans (grown_trans g1 g2) (grown_trans (grown_of_below (Below.new W2 _) (some b)) g3)
      clear hz
      go_wp2_with fail
      refine (l01DrawOf_any w0 _ b (1 + k) z s3 hB3 (by omega) (by omega) hz2.1 hz2.2).mono ?_
      rintro e W4 ⟨u, rfl, hu, s4, g4⟩
      have hB4 := below_src hB3 HB0 g4
      have G4 := grown_trans G3 g4
      have CL := Lib.hid (l01Next_i w0 W4 b 4 s4 hB4 (by omega) (by omega))
      go_wp2_with fail
      refine CL.out.mono ?_
      rintro e W5 ⟨q, rfl, q0, q1, s5, g5⟩
      have hB5 := below_src hB4 HB0 g5
      have G5 := grown_trans G4 g5
      have hus : u.size ≤ 6 := by omega
      have hu1 : 1 ≤ u.size := by omega
      clear hu
      go_wp2_with fail
      go_loopg [7, 8] 4 (fun g s7 s8 wr => ∃ (t : ByteArray) (j : Int), 0 ≤ j ∧ j ≤ g ∧ t.size + j.toNat * 6 ≤ 24 ∧ s7 = .string t ∧ s8 = .int .i64 j ∧ wr = W5)
      case atStart => exact ⟨⟨#[]⟩, 1 + q, by omega, by omega, by show 0 + _ ≤ 24; omega, rfl, rfl, rfl⟩
      case round =>
        obtain ⟨t, j, j0, jg, ht, rfl, rfl, rfl⟩ := hrel
        by_cases hp : 0 < j
        · obtain ⟨g, rfl⟩ : ∃ g, gk = g + 1 := ⟨gk - 1, by omega⟩
          have hsum : ∀ W, (Op.stringOp .add t u).run Tryz.prog W = .ok (.string (t ++ u)) W := fun W => run_string_add_sum W _ _ (by omega)
          have y1 : (t ++ u).size = t.size + u.size := by rw [ByteArray.size_append]
          generalize t ++ u = o1 at *
          go_wp2
          go_roundg g
          case measure => omega
          case rel => exact ⟨o1, j - 1, by omega, by omega, by omega, rfl, by go_num, by first | rfl | trivial⟩
        · have CM := Lib.hid (l01Next_i w0 wr b u.size s5 hB5 (by omega) (by omega))
          have hts : t.size ≤ 24 := by omega
          go_wp2_with fail
          refine CM.out.mono ?_
          rintro e W6 ⟨p, rfl, p0, p1, s6, g6⟩
          obtain ⟨n, rfl⟩ := Int.eq_ofNat_of_zero_le p0
          have hsl1 := fun W => slice_to u (n : Int) n rfl (by omega) W
          have z1 : (u.extract 0 n).size = n := by simp; omega
          generalize u.extract 0 n = u1 at *
          have hsum : ∀ W, (Op.stringOp .add t u1).run Tryz.prog W = .ok (.string (t ++ u1)) W := fun W => run_string_add_sum W _ _ (by omega)
          have y1 : (t ++ u1).size = t.size + u1.size := by rw [ByteArray.size_append]
          generalize t ++ u1 = o1 at *
          have G6 := grown_trans G5 g6
          go_wp2_with fail
          go_ret
          exact ⟨o1, rfl, by omega, s6, G6⟩
    · by_cases h2 : v = 2
      · subst h2
        have CK := Lib.hid (l01Next_i w0 W1 b 12 s1 hB1 (by omega) (by omega))
        go_wp2_with fail
        refine CK.out.mono ?_
        rintro e W2 ⟨k, rfl, k0, k1, s2, g2⟩
        have hB2 := below_src hB1 HB0 g2
        have hbl2 := s2.lt
        go_wp2_with fail
        refine (l01Pick_any w0 _ b _ [2, 2, 3] (s2.below (Below.new _ _)) (hB2.alloc hB2.size _) (by simp) (by omega) (by decide) (by decide) (cells_new_ints W2 [2, 2, 3] _)).mono ?_
        rintro e W3 ⟨z, rfl, hz, s3, g3⟩
        have hz2 : 1 ≤ z ∧ z ≤ 5 := by simp at hz; omega
        have hB3 := below_src (hB2.alloc hB2.size _) HB0 g3
        have G3 := grown_trans (grown_trans g1 g2) (grown_trans (grown_of_below (Below.new W2 _) (some b)) g3)
        clear hz
        go_wp2_with fail
        refine (l01DrawOf_any w0 _ b k z s3 hB3 (by omega) k0 hz2.1 hz2.2).mono ?_
        rintro e W4 ⟨u, rfl, hu, s4, g4⟩
        have hB4 := below_src hB3 HB0 g4
        have G4 := grown_trans G3 g4
        have hus : u.size ≤ 11 := by omega
        clear hu
        have CL := Lib.hid (l01Next_i w0 W4 b 2 s4 hB4 (by omega) (by omega))
        go_wp2_with fail
        refine CL.out.mono ?_
        rintro e W5 ⟨q, rfl, q0, q1, s5, g5⟩
        have hB5 := below_src hB4 HB0 g5
        have G5 := grown_trans G4 g5
        go_wp2_with fail
        refine (l01DrawOf_any w0 _ b q 2 s5 hB5 (by omega) q0 (by omega) (by omega)).mono ?_
        rintro e W6 ⟨m, rfl, hm, s6, g6⟩
        have G6 := grown_trans G5 g6
        have hms : m.size ≤ 1 := by omega
        clear hm
        have hsum : ∀ W, (Op.stringOp .add u m).run Tryz.prog W = .ok (.string (u ++ m)) W := fun W => run_string_add_sum W _ _ (by omega)
        have y1 : (u ++ m).size = u.size + m.size := by rw [ByteArray.size_append]
        generalize u ++ m = o1 at *
        go_wp2_with fail
        refine (l01Reversed_any u _ (by omega)).mono ?_
        rintro e W7 ⟨rfl, b7⟩
        have hrv : (rev u).size = u.size := rev_size u
        generalize rev u = r at *
        have hsum2 : ∀ W, (Op.stringOp .add o1 r).run Tryz.prog W = .ok (.string (o1 ++ r)) W := fun W => run_string_add_sum W _ _ (by omega)
        have y2 : (o1 ++ r).size = o1.size + r.size := by rw [ByteArray.size_append]
        generalize o1 ++ r = o2 at *
        have s7 := s6.below b7
        have G7 := grown_trans G6 (grown_of_below b7 (some b))
        go_wp2_with fail
        go_ret
        exact ⟨o2, rfl, by omega, s7, G7⟩
      · by_cases h3 : v = 3
        · subst h3
          go_wp2_with fail
          refine (l01Pick_any w0 _ b _ [20, 40, 61] (s1.below (Below.new _ _)) (hB1.alloc hB1.size _) (by simp) (by omega) (by decide) (by decide) (cells_new_ints W1 [20, 40, 61] _)).mono ?_
          rintro e W2 ⟨k, rfl, hk, s2, g2⟩
          have hk2 : 1 ≤ k ∧ k ≤ 61 := by simp at hk; omega
          have hB2 := below_src (hB1.alloc hB1.size _) HB0 g2
          have G2 := grown_trans g1 (grown_trans (grown_of_below (Below.new W1 _) (some b)) g2)
          clear hk
          have CK := Lib.hid (l01Next_i w0 W2 b k s2 hB2 hk2.1 (by omega))
          go_wp2_with fail
          refine CK.out.mono ?_
          rintro e W3 ⟨q, rfl, q0, q1, s3, g3⟩
          have hB3 := below_src hB2 HB0 g3
          have hbl3 := s3.lt
          have G3 := grown_trans G2 g3
          go_wp2_with fail
          refine (l01Pick_any w0 _ b _ [1, 2, 2, 3, 3, 4, 5] (s3.below (Below.new _ _)) (hB3.alloc hB3.size _) (by simp) (by omega) (by decide) (by decide) (cells_new_ints W3 [1, 2, 2, 3, 3, 4, 5] _)).mono ?_
          rintro e W4 ⟨z, rfl, hz, s4, g4⟩
          have hz2 : 1 ≤ z ∧ z ≤ 5 := by simp at hz; omega
          have hB4 := below_src (hB3.alloc hB3.size _) HB0 g4
          have G4 := grown_trans G3 (grown_trans (grown_of_below (Below.new W3 _) (some b)) g4)
          clear hz
          go_wp2_with fail
          refine (l01DrawOf_any w0 _ b q z s4 hB4 (by omega) q0 hz2.1 hz2.2).mono ?_
          rintro e W5 ⟨u, rfl, hu, s5, g5⟩
          go_wp2_with fail
          go_ret
          exact ⟨u, rfl, by omega, s5, grown_trans G4 g5⟩
        · go_wp2_with fail
          refine (l01Small_any w0 W1 b s1 hB1).mono ?_
          rintro e W2 ⟨u, rfl, hu, s2, g2⟩
          go_wp2_with fail
          go_ret
          exact ⟨u, rfl, by omega, s2, grown_trans g1 g2⟩

end Go.Proofs.YtkemdiefoohdjabGreat

/-! ### DrawTwo -/
namespace Go.Proofs.YtkemdiefoohdjabGreat
set_option linter.unusedVariables false
set_option linter.unusedSimpArgs false
open Go.RowKit

/-- What a draw of two texts comes to. -/
def TwoT (w : World) (e : Ending) (w' : World) : Prop := ∃ x y : ByteArray, e = .returned (.tuple #[.string x, .string y]) ∧ x.size ≤ 1000 ∧ y.size ≤ 1000 ∧ Below w.heap.size w w'
/-- What a draw of a text and a number comes to. -/
def TextI (w : World) (e : Ending) (w' : World) : Prop := ∃ (x : ByteArray) (k : Int), e = .returned (.tuple #[.string x, .int .i64 k]) ∧ x.size ≤ 1000 ∧ (Lit.int .i64 k).wf = true ∧ Below w.heap.size w w'
theorem wf_near {k : Int} (h0 : -4611686018427387904 ≤ k) (h1 : k ≤ 1099511627776) : (Lit.int .i64 k).wf = true := by
  simp [Lit.wf, IntKind.min, IntKind.max, IntKind.signed, IntKind.bits]
  omega

end Go.Proofs.YtkemdiefoohdjabGreat

/-! ### DrawIn -/
namespace Go.Proofs.YtkemdiefoohdjabGreat
set_option linter.unusedVariables false
set_option linter.unusedSimpArgs false
open Go.RowKit

/-- What a draw of two numbers comes to. -/
def TwoI (w : World) (e : Ending) (w' : World) : Prop := ∃ (m k : Int), e = .returned (.tuple #[.int .i64 m, .int .i64 k]) ∧ (Lit.int .i64 m).wf = true ∧ (Lit.int .i64 k).wf = true ∧ Below w.heap.size w w'
/-- What a draw of a text and two numbers comes to. -/
def TextII (w : World) (e : Ending) (w' : World) : Prop := ∃ (x : ByteArray) (i m : Int), e = .returned (.tuple #[.string x, .int .i64 i, .int .i64 m]) ∧ x.size ≤ 1000 ∧ (Lit.int .i64 i).wf = true ∧ (Lit.int .i64 m).wf = true ∧ Below w.heap.size w w'
def OneT (w : World) (e : Ending) (w' : World) : Prop := ∃ x : ByteArray, e = .returned (.string x) ∧ x.size ≤ 1000 ∧ Below w.heap.size w w'

end Go.Proofs.YtkemdiefoohdjabGreat

/-! ### WordsPlain -/
namespace Go.Proofs.YtkemdiefoohdjabGreat
set_option linter.unusedVariables false
set_option linter.unusedSimpArgs false
open Go.RowKit

def lt1 (j : Nat) : ByteArray := ⟨#[letB (j : Int)]⟩
def rowW (s : ByteArray) (c : Nat) : List ByteArray := (List.range c).map fun j => s ++ lt1 j
def nextW (k : Nat) (L : List ByteArray) : List ByteArray := L.flatMap fun s => rowW s k
def allW (k : Nat) : Nat → List ByteArray
  | 0 => [⟨#[]⟩]
  | m + 1 => nextW k (allW k m)
theorem rowW_len (s : ByteArray) (c : Nat) : (rowW s c).length = c := by simp [rowW]
theorem rowW_succ (s : ByteArray) (c : Nat) : rowW s (c + 1) = rowW s c ++ [s ++ lt1 c] := by simp [rowW, List.range_succ]
theorem rowW_zero (s : ByteArray) : rowW s 0 = [] := rfl
theorem nextW_take (k : Nat) (L : List ByteArray) (i : Nat) (h : i < L.length) : nextW k (L.take (i + 1)) = nextW k (L.take i) ++ rowW (L[i]'h) k := by
  unfold nextW
  rw [List.take_succ_eq_append_getElem h, List.flatMap_append]
  simp
theorem nextW_len (k : Nat) : ∀ (L : List ByteArray), (nextW k L).length = L.length * k
  | [] => by simp [nextW]
  | s :: L => by
    have h := nextW_len k L
    unfold nextW at *
    rw [List.flatMap_cons, List.length_append, h, rowW_len, List.length_cons, Nat.succ_mul, Nat.add_comm]
theorem allW_len (k : Nat) : ∀ m, (allW k m).length = k ^ m
  | 0 => rfl
  | m + 1 => by rw [allW, nextW_len, allW_len k m, Nat.pow_succ]
theorem lt1_size (j : Nat) : (lt1 j).size = 1 := rfl
theorem mem_nextW {k : Nat} {L : List ByteArray} {n : Nat} (h : ∀ s ∈ L, s.size ≤ n) : ∀ s ∈ nextW k L, s.size ≤ n + 1 := by
  intro s hs
  unfold nextW at hs
  rw [List.mem_flatMap] at hs
  obtain ⟨t, ht, hs⟩ := hs
  unfold rowW at hs
  rw [List.mem_map] at hs
  obtain ⟨j, _, rfl⟩ := hs
  rw [ByteArray.size_append, lt1_size]
  have := h t ht
  omega
theorem allW_size (k : Nat) : ∀ m, ∀ s ∈ allW k m, s.size ≤ m
  | 0, s, h => by
    simp [allW] at h
    subst h
    exact Nat.le_refl _
  | m + 1, s, h => mem_nextW (allW_size k m) s h
theorem encode_letter (j : Nat) (h : j ≤ 4) : Utf8.encode (97 + (j : Int)) = lt1 j := by
  have : ∀ j : Nat, j ≤ 4 → Utf8.encode (97 + (j : Int)) = lt1 j := by
    intro j hj
    match j, hj with
    | 0, _ => rfl
    | 1, _ => rfl
    | 2, _ => rfl
    | 3, _ => rfl
    | 4, _ => rfl
  exact this j h
def wordsR (m k : Int) : List ByteArray × Int := if m < 0 ∨ 60 < m ∨ k < 1 ∨ 5 < k then ([], 2) else if 256 < k.toNat ^ m.toNat then ([], 3) else (allW k.toNat m.toNat, 0)
theorem wordsR_out {m k : Int} (h : m < 0 ∨ 60 < m ∨ k < 1 ∨ 5 < k) : wordsR m k = ([], 2) := if_pos h
theorem wordsR_long {m k : Nat} (h1 : m ≤ 60) (h2 : 1 ≤ k) (h3 : k ≤ 5) (h : 256 < k ^ m) : wordsR (m : Int) (k : Int) = ([], 3) := by unfold wordsR; rw [if_neg (by omega), if_pos (by simpa using h)]
theorem wordsR_ok {m k : Nat} (h1 : m ≤ 60) (h2 : 1 ≤ k) (h3 : k ≤ 5) (h : ¬ 256 < k ^ m) : wordsR (m : Int) (k : Int) = (allW k m, 0) := by unfold wordsR; rw [if_neg (by omega), if_neg (by simpa using h)]; rfl
theorem wordsR_len (m k : Int) : (wordsR m k).1.length ≤ 4096 := by
  unfold wordsR
  split
  · simp
  · split
    · simp
    · rename_i h
      rw [allW_len]
      omega

end Go.Proofs.YtkemdiefoohdjabGreat

/-! ### NextPlain -/
namespace Go.Proofs.YtkemdiefoohdjabGreat
set_option linter.unusedVariables false
set_option linter.unusedSimpArgs false

/-- The letters below k with which the letters l go on without a square at their end. -/
def nextL (l : List UInt8) (k : Nat) : List Int := ((List.range k).filter fun (c : Nat) => decide (sa (l ++ [letB (c : Int)]) (l.length + 1) = 0)).map Int.ofNat
theorem nextL_zero (l : List UInt8) : nextL l 0 = [] := rfl
theorem nextL_hit (l : List UInt8) (k : Nat) (h : sa (l ++ [letB (k : Int)]) (l.length + 1) = 0) : nextL l (k + 1) = nextL l k ++ [(k : Int)] := by simp [nextL, List.range_succ, h]
theorem nextL_miss (l : List UInt8) (k : Nat) (h : ¬ sa (l ++ [letB (k : Int)]) (l.length + 1) = 0) : nextL l (k + 1) = nextL l k := by simp [nextL, List.range_succ, h]
theorem nextL_len (l : List UInt8) (k : Nat) : (nextL l k).length ≤ k := by
  unfold nextL; rw [List.length_map]; have := List.length_filter_le (fun (c : Nat) => decide (sa (l ++ [letB (c : Int)]) (l.length + 1) = 0)) (List.range k); rwa [List.length_range] at this
theorem nextL_mem {l : List UInt8} {k : Nat} {z : Int} (h : z ∈ nextL l k) : 0 ≤ z ∧ z < k ∧ sa (l ++ [letB z]) (l.length + 1) = 0 := by
  obtain ⟨i, hi, rfl⟩ := List.mem_map.1 h
  have h1 := List.mem_range.1 (List.mem_filter.1 hi).1
  have h2 := of_decide_eq_true (List.mem_filter.1 hi).2
  exact ⟨by simp, by simp only [Int.ofNat_eq_natCast]; omega, h2⟩
def nextR (x : ByteArray) (k : Int) : List Int × Int := if ¬ IsW x then ([], 1) else if k < 1 ∨ 5 < k then ([], 2) else if ¬ (fs (bl x)).2 = 0 then ([], 4) else if x.size = 60 then ([], 0) else (nextL (bl x) k.toNat, 0)
theorem nextR_bad {x : ByteArray} {k : Int} (h : ¬ IsW x) : nextR x k = ([], 1) := if_pos h
theorem nextR_out {x : ByteArray} {k : Int} (h : IsW x) (hk : k < 1 ∨ 5 < k) : nextR x k = ([], 2) := by unfold nextR; rw [if_neg (not_not_intro h), if_pos hk]
theorem nextR_not {x : ByteArray} {k : Int} (h : IsW x) (hk : ¬ (k < 1 ∨ 5 < k)) (h0 : ¬ (fs (bl x)).2 = 0) : nextR x k = ([], 4) := by unfold nextR; rw [if_neg (not_not_intro h), if_neg hk, if_pos h0]
theorem nextR_full {x : ByteArray} {k : Int} (h : IsW x) (hk : ¬ (k < 1 ∨ 5 < k)) (h0 : (fs (bl x)).2 = 0) (h1 : x.size = 60) : nextR x k = ([], 0) := by unfold nextR; rw [if_neg (not_not_intro h), if_neg hk, if_neg (not_not_intro h0), if_pos h1]
theorem nextR_ok {x : ByteArray} {k : Nat} (h : IsW x) (hk : ¬ ((k : Int) < 1 ∨ 5 < (k : Int))) (h0 : (fs (bl x)).2 = 0) (h1 : ¬ x.size = 60) : nextR x (k : Int) = (nextL (bl x) k, 0) := by unfold nextR; rw [if_neg (not_not_intro h), if_neg hk, if_neg (not_not_intro h0), if_neg h1]; rfl
theorem nextR_len (x : ByteArray) (k : Int) : (nextR x k).1.length ≤ 4096 := by
  unfold nextR
  by_cases h : ¬ IsW x
  · rw [if_pos h]; decide
  rw [if_neg h]
  by_cases hk : k < 1 ∨ 5 < k
  · rw [if_pos hk]; decide
  rw [if_neg hk]
  by_cases h0 : ¬ (fs (bl x)).2 = 0
  · rw [if_pos h0]; decide
  rw [if_neg h0]
  by_cases h1 : x.size = 60
  · rw [if_pos h1]; decide
  rw [if_neg h1]
  have := nextL_len (bl x) k.toNat
  show (nextL (bl x) k.toNat).length ≤ 4096
  omega
theorem bl_lt1 (x : ByteArray) (c : Nat) : bl (x ++ lt1 c) = bl x ++ [letB (c : Int)] := by rw [bl_append]; rfl
theorem size_lt1 (x : ByteArray) (c : Nat) : (x ++ lt1 c).size = x.size + 1 := by rw [ByteArray.size_append]; rfl

end Go.Proofs.YtkemdiefoohdjabGreat

/-! ### Next -/
namespace Go.Proofs.YtkemdiefoohdjabGreat
set_option linter.unusedVariables false
set_option linter.unusedSimpArgs false
open Go.RowKit

/-- Whether a square is at the end of a text that is not empty. -/
theorem l03First_end (y : ByteArray) (z : Int) (w : World) (hy : y.size ≤ 61) (h0 : 0 < y.size) (hz : z = (y.size : Int)) :
    Calls Tryz.prog 71 #[.string y, .int .i64 z] w fun e w' => ∃ a b : Int, e = .returned (.tuple #[.int .i64 a, .int .i64 b, .bool (decide (¬ sa (bl y) y.size = 0))]) ∧ Below w.heap.size w w' := by
  subst hz
  have hd : decide (¬ (fsF (bl y) (max y.size 2) (y.size + 1 - max y.size 2)).2 = 0) = decide (¬ sa (bl y) y.size = 0) := by
    by_cases h1 : y.size = 1
    · have h2 := sa_low (l := bl y) (e := y.size) (by omega)
      rw [h2, h1]
      rfl
    · rw [show max y.size 2 = y.size by omega, show y.size + 1 - y.size = 0 + 1 by omega]
      by_cases h2 : sa (bl y) y.size = 0
      · rw [fsF_miss h2, h2]; rfl
      · rw [fsF_hit h2]
  refine (l03First_any y y.size (max y.size 2) w hy hy (by omega)).mono ?_
  rintro e w1 ⟨rfl, b1⟩
  exact ⟨_, _, by rw [hd], b1⟩

end Go.Proofs.YtkemdiefoohdjabGreat

/-! ### RenamePlain -/
namespace Go.Proofs.YtkemdiefoohdjabGreat
set_option linter.unusedVariables false
set_option linter.unusedSimpArgs false
open Go.RowKit

def renL (x : ByteArray) (L : List Int) : List Int := (numsR x).map fun n => L.getD n.toNat 0
theorem renL_len (x : ByteArray) (L : List Int) : (renL x L).length = x.size := by unfold renL; rw [List.length_map, numsR_len]
theorem renL_get (x : ByteArray) (L : List Int) (k : Nat) (h : k < (renL x L).length) (h' : k < x.size) : (renL x L)[k]'h = L.getD (((x[k]'h').toNat : Int) - 97).toNat 0 := by
  have h2 : k < ((numsR x).map fun n => L.getD n.toNat 0).length := h
  have h3 : k < (numsR x).length := by rw [numsR_len]; exact h'
  have e : ((numsR x).map fun n => L.getD n.toNat 0)[k]'h2 = L.getD ((numsR x)[k]'h3).toNat 0 := List.getElem_map ..
  rw [numsR_get x k h3 h'] at e
  exact e
theorem renL_ok {x : ByteArray} {L : List Int} (hx : IsW x) (hL : L.length = 5) (h : okN L) : okN (renL x L) := by
  intro j hj
  have hj' : j < x.size := by rw [← renL_len x L]; exact hj
  rw [renL_get x L j hj hj']
  have h1 := hx.lo j hj'
  have h2 := hx.hi j hj'
  have h3 : (((x[j]'hj').toNat : Int) - 97).toNat < L.length := by omega
  rw [List.getD_eq_getElem?_getD, List.getElem?_eq_getElem h3]
  exact h _ h3
def mixL (R N : List Int) (k : Nat) : List Int := R.take k ++ N.drop k
theorem mixL_len (R N : List Int) (k : Nat) (h : R.length = N.length) (hk : k ≤ N.length) : (mixL R N k).length = N.length := by simp [mixL]; omega
theorem mixL_zero (R N : List Int) : mixL R N 0 = N := by simp [mixL]
theorem mixL_end (R N : List Int) (h : R.length = N.length) : mixL R N N.length = R := by simp [mixL, ← h]
theorem mixL_get (R N : List Int) (k : Nat) (h : R.length = N.length) (hk : k < N.length) (h2 : k < (mixL R N k).length) : (mixL R N k)[k]'h2 = N[k]'hk := by
  have h1 : (R.take k).length = k := by simp; omega
  have h3 : k < (R.take k ++ N.drop k).length := h2
  have e : (R.take k ++ N.drop k)[k]'h3 = N[k]'hk := by
    rw [List.getElem_append_right (by omega)]
    simp [h1]
  exact e
theorem mixL_step (R N : List Int) (k : Nat) (h : R.length = N.length) (hk : k < R.length) : ((mixL R N k).map (Value.int .i64)).set k (.int .i64 (R[k]'hk)) = (mixL R N (k + 1)).map (Value.int .i64) := by
  have h1 : (R.take k).length = k := by simp; omega
  have h2 : (R.take (k + 1)).length = k + 1 := by simp; omega
  apply List.ext_getElem
  · simp [mixL]; omega
  · intro i h3 h4
    simp only [List.getElem_set, List.getElem_map]
    by_cases e : k = i
    · subst e
      rw [if_pos rfl]
      congr 1
      unfold mixL
      rw [List.getElem_append_left (by omega), List.getElem_take]
    · rw [if_neg e]
      congr 1
      unfold mixL
      simp only [List.getElem_append, h1, h2]
      by_cases h5 : i < k
      · rw [dif_pos h5, dif_pos (by omega)]
        simp
      · rw [dif_neg h5, dif_neg (by omega)]
        simp only [List.getElem_drop]
        congr 1
        omega
def renR (x : ByteArray) (L : List Int) : ByteArray × Int := if ¬ IsW x then (tE, 1) else if L.length ≠ 5 ∨ ¬ okN L then (tE, 2) else (wordB (renL x L), 0)
theorem renR_bad {x : ByteArray} {L : List Int} (h : ¬ IsW x) : renR x L = (⟨#[]⟩, 1) := if_pos h
theorem renR_out {x : ByteArray} {L : List Int} (h : IsW x) (h2 : L.length ≠ 5 ∨ ¬ okN L) : renR x L = (⟨#[]⟩, 2) := by unfold renR; rw [if_neg (not_not_intro h), if_pos h2]; rfl
theorem renR_ok {x : ByteArray} {L : List Int} (h : IsW x) (h5 : L.length = 5) (h2 : okN L) : renR x L = (wordB (renL x L), 0) := by
  unfold renR
  rw [if_neg (not_not_intro h), if_neg (by intro h3; rcases h3 with h3 | h3; exact h3 h5; exact h3 h2)]
theorem letB_byte {n : Int} (h0 : 0 ≤ n) (h4 : n ≤ 4) : Lib.byteCells [letB n] = [Value.int .u8 (97 + n)] := by
  simp [Lib.byteCells, letB_nat h0 h4]

end Go.Proofs.YtkemdiefoohdjabGreat

/-! ### Rename -/
namespace Go.Proofs.YtkemdiefoohdjabGreat
set_option linter.unusedVariables false
set_option linter.unusedSimpArgs false
open Go.RowKit

set_option maxRecDepth 100000 in
set_option maxHeartbeats 2000000 in
theorem l01Renamed_any (x : ByteArray) (B : Nat) (v : Value) (L : List Int) (w : World) (hx : IsW x) (h : OwnI w B v L) (h5 : L.length = 5) (hok : okN L) :
    Calls Tryz.prog 69 #[.string x, v] w fun e w' => e = .returned (.string (wordB (renL x L))) ∧ Below w.heap.size w w' := by
  obtain ⟨i0, hi, hz0, hz1, hz2⟩ := info_parts infoU8
  have h1 := hx.size
  obtain ⟨gp, cp, rfl, _, hgp, hcp, _, cell, _⟩ := h.row (by omega)
  have C := Lib.hid cell
  have HX := Lib.hid hx
  have H5 := Lib.hid h5
  have hcp5 : 5 ≤ cp := by omega
  have OK := Lib.hid hok
  have OK2 := Lib.hid (renL_ok hx h5 hok)
  have RL := Lib.hid (renL_len x L)
  clear hx h cell h5 hok
  go_enter Tryz.func69, Tryz.ntmps69
  go_wp2
  go_loopw [5, 6] (fun v i wr => ∃ k : Nat, k ≤ x.size ∧ i = .int .i64 k ∧ wr.ownsRow w.heap.size 5 1 v k (Lib.byteCells (wordL ((renL x L).take k))) ∧ Below w.heap.size w wr)
    (fun _ i _ => x.size - (intOf i).toNat)
  case atStart =>
    refine ⟨0, Nat.zero_le _, rfl, ?_, Below.new _ _⟩
    exact World.ownsRow_lit w #[] 0 (Nat.le_refl _) (by decide) (by simp)
  case round =>
    rename_i u5 _ _
    obtain ⟨k, hk, rfl, hown, hB⟩ := hrel
    by_cases hp : k < x.size
    · have hlo := HX.out.lo k hp
      have hhi := HX.out.hi k hp
      have hRl := RL.out
      obtain ⟨n, hn⟩ : ∃ n : Nat, ((x[k]'hp).toNat : Int) = (n : Int) + 97 := ⟨(x[k]'hp).toNat - 97, by omega⟩
      have hn4 : n ≤ 4 := by omega
      have h5 := H5.out
      have hnL : n < L.length := by omega
      have hokn := OK.out n hnL
      have k3 : wr.cell? ⟨gp, n, none⟩ = some (.int .i64 (L[n]'hnL)) := by
        rw [(bcell hB).1 gp n hgp]; exact C.out n hnL
      have hsn := wordL_snoc (renL x L) k (by omega)
      have e1 : ((x[k]'hp).toNat : Int) - 97 = n := by omega
      rw [renL_get x L k (by omega) hp, e1, Int.toNat_natCast, List.getD_eq_getElem?_getD, List.getElem?_eq_getElem hnL, Option.getD_some] at hsn
      have hbc := letB_byte hokn.1 hokn.2
      have HS : Hid (Lib.byteCells (wordL ((renL x L).take k)) ++ [Value.int .u8 (97 + L[n]'hnL)] = Lib.byteCells (wordL ((renL x L).take (k + 1)))) := Lib.hid (by rw [← hbc, ← Lib.byteCells_append, hsn])
      have E1 := Lib.hid e1
      have K3 := Lib.hid k3
      clear hsn hbc e1 hn hRl h5 k3
      generalize hzz : L[n]'hnL = z at *
      clear hzz
      obtain ⟨o1, o2⟩ := hokn
      have hnc : n < cp := by omega
      go_wp2_with fail
      refine (l01At_any x k _ hp h1).mono ?_
      rintro e w2 ⟨rfl, b2⟩
      rw [E1.out]
      have k3 : w2.cell? ⟨gp, n, none⟩ = some (.int .i64 z) := by
        rw [(bcell b2).1 gp n (Nat.lt_of_lt_of_le hgp hB.size)]; exact K3.out
      have hown := own_below hown b2
      have hB := hB.then b2
      have hbz := hB.size
      go_wp2_with (at_builtin; refine wpList_append_own _ rfl _ _ 22 rfl w.heap.size 5 i0 (.int .u8 0) 1 1 Tryz.underlying22 hi hz0 hz1 hz2 rfl (by decide) _ _ _ rfl (hown.alloc _) ⟨_, 0, none⟩ 1 1 [.int .u8 (97 + z)] rfl rfl (cell_new _ _ _) (by intro u hu; simp at hu; subst hu; rfl) (by unfold maxLen; omega) (by omega) (by simp; omega) ?_; intro v' w3 hown' hgrow _)
      go_roundw
      case rel =>
        refine ⟨k + 1, by omega, by go_num, by rw [← HS.out]; exact hown', ?_⟩
        exact (hB.alloc hbz _).grown hgrow (by simp; omega) (fun q hq => (hown.lt q hq).1)
      case measure => simp [intOf]; omega
    · have hke : x.size ≤ k := by omega
      have hcv : (convert 22 9 u5).run Tryz.prog wr = .ok (.string (wordB (renL x L))) wr := by
        have hkk : k = (wordL (renL x L)).length := by
          have := RL.out
          simp only [wordL, List.length_map]
          omega
        have h2 := hown
        rw [List.take_of_length_le (by rw [RL.out]; exact hke)] at h2
        rw [hkk] at h2
        exact text_of_own h2
      clear hown
      go_wp2
      go_ret
      exact ⟨rfl, hB⟩

end Go.Proofs.YtkemdiefoohdjabGreat

/-! ### CountPlain -/
namespace Go.Proofs.YtkemdiefoohdjabGreat
set_option linter.unusedVariables false
set_option linter.unusedSimpArgs false
open Go.RowKit

def bump (L : List Int) (c : Int) : List Int := L.set c.toNat (L.getD c.toNat 0 + 1)
def cntK (x : ByteArray) (k : Nat) : List Int := ((numsR x).take k).foldl bump [0, 0, 0, 0, 0]
theorem bump_len (L : List Int) (c : Int) : (bump L c).length = L.length := by simp [bump]
theorem foldl_bump_len : ∀ (M L : List Int), (M.foldl bump L).length = L.length
  | [], _ => rfl
  | c :: M, L => by rw [List.foldl_cons, foldl_bump_len M, bump_len]
theorem cntK_len (x : ByteArray) (k : Nat) : (cntK x k).length = 5 := by rw [cntK, foldl_bump_len]; rfl
theorem cntK_zero (x : ByteArray) : cntK x 0 = [0, 0, 0, 0, 0] := by simp [cntK]
theorem cntK_succ (x : ByteArray) (k : Nat) (h : k < x.size) : cntK x (k + 1) = bump (cntK x k) (((x[k]'h).toNat : Int) - 97) := by
  have h2 : k < (numsR x).length := by rw [numsR_len]; exact h
  unfold cntK
  rw [List.take_succ_eq_append_getElem h2, List.foldl_append, numsR_get x k h2 h]
  rfl
theorem bump_bd {L : List Int} {c : Int} {m : Int} (h : ∀ j, 0 ≤ L.getD j 0 ∧ L.getD j 0 ≤ m) : ∀ j, 0 ≤ (bump L c).getD j 0 ∧ (bump L c).getD j 0 ≤ m + 1 := by
  intro j
  have hj := h j
  have hc := h c.toNat
  unfold bump
  simp only [List.getD_eq_getElem?_getD, List.getElem?_set] at *
  by_cases e : c.toNat = j
  · subst e
    by_cases hl : c.toNat < L.length
    · simp only [hl, if_true, Option.getD_some]; omega
    · simp only [hl, if_true, if_false, Option.getD_none]; omega
  · simp only [e, if_false]; omega
theorem cntK_bd (x : ByteArray) : ∀ (k : Nat), k ≤ x.size → ∀ j, 0 ≤ (cntK x k).getD j 0 ∧ (cntK x k).getD j 0 ≤ k
  | 0, _, j => by
    rw [cntK_zero]
    match j with
    | 0 | 1 | 2 | 3 | 4 => simp
    | j + 5 => simp
  | k + 1, h, j => by
    rw [cntK_succ x k h]
    have := bump_bd (c := ((x[k]'h).toNat : Int) - 97) (cntK_bd x k (by omega)) j
    omega
def countR (x : ByteArray) : List Int × Int := if ¬ IsW x then ([], 1) else (cntK x x.size, 0)
theorem countR_bad {x : ByteArray} (h : ¬ IsW x) : countR x = ([], 1) := if_pos h
theorem countR_ok {x : ByteArray} (h : IsW x) : countR x = (cntK x x.size, 0) := by unfold countR; rw [if_neg (not_not_intro h)]
theorem countR_len (x : ByteArray) : (countR x).1.length ≤ 4096 := by
  by_cases h : IsW x
  · rw [countR_ok h, cntK_len]; decide
  · rw [countR_bad h]; decide
/-- A store of one number more into a row that holds L. -/
theorem bump_map (L : List Int) (n : Nat) : (L.map (Value.int .i64)).set n (.int .i64 (L.getD n 0 + 1)) = (bump L n).map (Value.int .i64) := by
  simp [bump, List.map_set]

end Go.Proofs.YtkemdiefoohdjabGreat

/-! ### Reverse -/
namespace Go.Proofs.YtkemdiefoohdjabGreat
set_option linter.unusedVariables false
set_option linter.unusedSimpArgs false
open Go.RowKit

def revR (x : ByteArray) : ByteArray × Int := if ¬ IsW x then (tE, 1) else (rev x, 0)
theorem revR_bad {x : ByteArray} (h : ¬ IsW x) : revR x = (⟨#[]⟩, 1) := if_pos h
theorem revR_ok {x : ByteArray} (h : IsW x) : revR x = (rev x, 0) := by unfold revR; rw [if_neg (not_not_intro h)]

theorem _root_.Go.World.grownBy.trans_drew {w w' : World} {r : Option Nat} (h : w.grownBy w' r) : w.grownBy w'.drew r := ⟨h.os, h.tape, h.output, h.size, h.block⟩
theorem two_sets {w : World} {g i j : Nat} {v u x y : Value} (hi : w.cell? ⟨g, i, none⟩ = some x) (hj : w.cell? ⟨g, j, none⟩ = some y) (hij : i ≠ j) (p : Nat) :
    ((w.setCell ⟨g, i, none⟩ v).setCell ⟨g, j, none⟩ u).cell? ⟨g, p, none⟩ = if p = j then some u else if p = i then some v else w.cell? ⟨g, p, none⟩ := by
  have ne : ∀ {a b : Nat}, a ≠ b → (⟨g, a, none⟩ : Addr) ≠ ⟨g, b, none⟩ := fun h e => h (by injection e)
  by_cases h1 : p = j
  · subst h1
    rw [if_pos rfl]
    exact World.cell?_setCell_same _ _ _ (u := y) (by rw [World.cell?_setCell_other (h := ne hij)]; exact hj)
  · rw [if_neg h1, World.cell?_setCell_other (h := ne (Ne.symm h1))]
    by_cases h2 : p = i
    · subst h2
      rw [if_pos rfl]
      exact World.cell?_setCell_same _ _ _ (u := x) hi
    · rw [if_neg h2, World.cell?_setCell_other (h := ne (Ne.symm h2))]

/-- The byte at place p of n when the first i pairs have been exchanged. -/
def rvk (l : List UInt8) (i p : Nat) : Int := if p < i ∨ l.length ≤ p + i then ((l.getD (l.length - 1 - p) 0).toNat : Int) else ((l.getD p 0).toNat : Int)

end Go.Proofs.YtkemdiefoohdjabGreat

/-! ### FnWordsPlain -/
namespace Go.Proofs.YtkemdiefoohdjabGreat
set_option linter.unusedVariables false
set_option linter.unusedSimpArgs false
open Go.RowKit

theorem isW_bl {x : ByteArray} : IsW x ↔ (bl x).length ≤ 60 ∧ ∀ b ∈ bl x, 97 ≤ b.toNat ∧ b.toNat ≤ 101 := by
  constructor
  · intro h
    refine ⟨h.1, fun b hb => ?_⟩
    obtain ⟨i, hi, rfl⟩ := List.getElem_of_mem hb
    exact h.2 i hi
  · intro h
    exact ⟨h.1, fun i hi => h.2 _ (List.getElem_mem (l := bl x) hi)⟩
theorem bl_rev (x : ByteArray) : bl (rev x) = (bl x).reverse := by
  show x.data.reverse.toList = x.data.toList.reverse
  exact Array.toList_reverse
theorem IsW.rev {x : ByteArray} (h : IsW x) : IsW (rev x) := by
  rw [isW_bl] at h ⊢
  rw [bl_rev]
  exact ⟨by rw [List.length_reverse]; exact h.1, fun b hb => h.2 b (List.mem_reverse.1 hb)⟩
theorem IsW.join {x y : ByteArray} (h : IsW x) (k : IsW y) (hl : x.size + y.size ≤ 60) : IsW (x ++ y) := by
  rw [isW_bl] at h k ⊢
  rw [bl_append]
  refine ⟨by rw [List.length_append, bl_len, bl_len]; exact hl, fun b hb => ?_⟩
  rcases List.mem_append.1 hb with hb | hb
  · exact h.2 b hb
  · exact k.2 b hb
theorem rev_join (x y : ByteArray) : rev (x ++ y) = rev y ++ rev x := bl_inj (by rw [bl_rev, bl_append, bl_append, bl_rev, bl_rev, List.reverse_append])
theorem rev_rev (x : ByteArray) : rev (rev x) = x := bl_inj (by rw [bl_rev, bl_rev, List.reverse_reverse])
theorem join_left (x y : ByteArray) : (x ++ y).extract 0 x.size = x := bl_inj (by rw [bl_take, bl_append, ← bl_len x, List.take_left])
theorem join_right (x y : ByteArray) : (x ++ y).extract x.size (x ++ y).size = y := bl_inj (by rw [bl_drop, bl_append, ← bl_len x, List.drop_left])
theorem join_get (x y : ByteArray) (k : Nat) (h : k < (x ++ y).size) (h2 : k < x.size) : (x ++ y)[k]'h = x[k]'h2 := by
  have e : (bl (x ++ y))[k]? = (bl x)[k]? := by rw [bl_append, List.getElem?_append_left h2]
  rw [List.getElem?_eq_getElem (show k < (bl (x ++ y)).length from h), List.getElem?_eq_getElem (show k < (bl x).length from h2)] at e
  exact Option.some.inj e
theorem com_join (x y : ByteArray) : ∀ f k, k ≤ x.size → x.size ≤ k + f → comFrom (x ++ y) x f k = x.size
  | 0, k, h1, h2 => by show k = _; omega
  | f + 1, k, h1, h2 => by
    by_cases h : k < x.size
    · have h3 : k < (x ++ y).size := by rw [ByteArray.size_append]; omega
      rw [comFrom_eq h3 h (join_get x y k h3 h)]
      exact com_join x y f (k + 1) (by omega) (by omega)
    · rw [comFrom_end (fun hh => h hh.2)]
      omega
theorem comN_join (x y : ByteArray) : comN (x ++ y) x = x.size := com_join x y _ 0 (Nat.zero_le _) (by rw [ByteArray.size_append]; omega)
theorem nums_ok {x : ByteArray} (h : IsW x) : okN (numsR x) := by
  intro j hj
  have hj' : j < x.size := by rw [← numsR_len x]; exact hj
  rw [numsR_get x j hj hj']
  have h1 := h.lo j hj'
  have h2 := h.hi j hj'
  omega
theorem letB_back {b : UInt8} (h : 97 ≤ b.toNat ∧ b.toNat ≤ 101) : letB ((b.toNat : Int) - 97) = b := by
  have h1 := letB_nat (n := (b.toNat : Int) - 97) (by omega) (by omega)
  exact UInt8.toNat_inj.1 (by omega)
theorem word_nums {x : ByteArray} (h : IsW x) : wordB (numsR x) = x := by
  have h1 := (isW_bl.1 h).2
  apply bl_inj
  show ((numsR x).map letB).toArray.toList = bl x
  have h2 : ∀ l : List UInt8, (∀ b ∈ l, 97 ≤ b.toNat ∧ b.toNat ≤ 101) → (l.map fun b => (b.toNat : Int) - 97).map letB = l := by
    intro l hl
    rw [List.map_map]
    conv => rhs; rw [← List.map_id l]
    exact List.map_congr_left fun b hb => letB_back (hl b hb)
  exact h2 _ h1
theorem set_sum : ∀ (L : List Int) (n : Nat), n < L.length → (L.set n (L.getD n 0 + 1)).sum = L.sum + 1
  | [], n, h => by simp at h
  | a :: L, 0, h => by simp; omega
  | a :: L, n + 1, h => by
    have := set_sum L n (by simpa using h)
    simp only [List.set_cons_succ, List.sum_cons, List.getD_cons_succ, this]
    omega
theorem cnt_sum {x : ByteArray} (h : IsW x) : ∀ k, k ≤ x.size → (cntK x k).sum = k
  | 0, _ => by rw [cntK_zero]; rfl
  | k + 1, hk => by
    have h1 := h.lo k (by omega)
    have h2 := h.hi k (by omega)
    rw [cntK_succ x k (by omega)]
    unfold bump
    rw [set_sum _ _ (by rw [cntK_len]; omega), cnt_sum h k (by omega)]
    omega
theorem cnt_small {x : ByteArray} (h : IsW x) : ∀ z ∈ cntK x x.size, 0 ≤ z ∧ z ≤ 60 := by
  intro z hz
  obtain ⟨j, hj, rfl⟩ := List.getElem_of_mem hz
  have h1 := cntK_bd x x.size (Nat.le_refl _) j
  have h2 := h.size
  rw [List.getD_eq_getElem?_getD, List.getElem?_eq_getElem hj] at h1
  have h3 : (some ((cntK x x.size)[j]'hj)).getD 0 = (cntK x x.size)[j]'hj := rfl
  rw [h3] at h1
  omega

theorem rot_back (l : List UInt8) (k : Nat) (h : k ≤ l.length) : rotL (rotL l k) (l.length - k) = l := by
  unfold rotL
  have e : (l.drop k).length = l.length - k := List.length_drop ..
  rw [← e, List.drop_left, List.take_left, List.take_append_drop]
theorem IsW.turned {x : ByteArray} (h : IsW x) {k : Nat} (hk : k ≤ x.size) : IsW (turned x k) := by
  have hs := turned_size x k hk
  have h0 := h.size
  rw [isW_bl] at h ⊢
  refine ⟨by rw [bl_len]; omega, fun b hb => ?_⟩
  rw [bl_turned] at hb
  unfold rotL at hb
  rcases List.mem_append.1 hb with hb | hb
  · exact h.2 b (List.mem_of_mem_drop hb)
  · exact h.2 b (List.mem_of_mem_take hb)
theorem turn_back {x : ByteArray} {k : Int} (h : (turnR x k).2 = 0) : turnR (turnR x k).1 ((x.size : Int) - k) = (x, 0) ∧ (turnR x k).1.size ≤ 60 ∧ 0 ≤ k ∧ k ≤ x.size := by
  by_cases hx : IsW x
  · by_cases hk : k < 0 ∨ (x.size : Int) < k
    · rw [turnR_out hx hk] at h
      exact absurd h (by decide)
    · obtain ⟨n, rfl⟩ := Int.eq_ofNat_of_zero_le (show 0 ≤ k by omega)
      have hn : n ≤ x.size := by omega
      have h0 := hx.size
      rw [turnR_ok hx hn]
      have hs := turned_size x n hn
      refine ⟨?_, by show (turned x n).size ≤ 60; omega, by omega, by omega⟩
      show turnR (turned x n) ((x.size : Int) - n) = _
      rw [show (x.size : Int) - n = ((x.size - n : Nat) : Int) by omega, turnR_ok (hx.turned hn) (by omega)]
      congr 1
      apply bl_inj
      rw [bl_turned, bl_turned, show x.size - n = (bl x).length - n from rfl, rot_back _ _ hn]
  · rw [turnR_bad hx] at h
    exact absurd h (by decide)

/-- What the law asks of a product, put together. -/
structure WordAns (x y pr : ByteArray) : Prop where
  size : pr.size ≤ 60 ∧ x.size ≤ 60 ∧ y.size ≤ 60
  a : revR pr = (rev pr, 0)
  b : revR x = (rev x, 0)
  c : revR y = (rev y, 0)
  d : productR (rev y) (rev x) = (rev pr, 0)
  back : revR (rev pr) = (pr, 0)
  letters : lettersR pr = (numsR pr, 0)
  made : wolR (numsR pr) = (pr, 0)
  counts : countR pr = (cntK pr pr.size, 0)
  sum : (cntK pr pr.size).sum = pr.size
  small : ∀ z ∈ cntK pr pr.size, 0 ≤ z ∧ z ≤ 60
  begins : beginR pr x = (x, 0)
  ends : endR pr y = (y, 0)

theorem words_good {x y : ByteArray} (h : (productR x y).2 = 0) : WordAns x y (productR x y).1 := by
  by_cases hxy : IsW x ∧ IsW y
  · by_cases hl : 60 < x.size + y.size
    · rw [productR_long hxy hl] at h
      exact absurd h (by decide)
    · rw [productR_ok hxy hl]
      obtain ⟨hx, hy⟩ := hxy
      have hp := hx.join hy (by omega)
      have h1 := hx.size
      have h2 := hy.size
      have h3 := hp.size
      refine ⟨⟨h3, h1, h2⟩, revR_ok hp, revR_ok hx, revR_ok hy, ?_, ?_, lettersR_ok hp, ?_, countR_ok hp, cnt_sum hp _ (Nat.le_refl _), cnt_small hp, ?_, ?_⟩
      · rw [productR_ok ⟨hy.rev, hx.rev⟩ (by rw [rev_size, rev_size]; omega), rev_join]
      · rw [revR_ok hp.rev, rev_rev]
      · rw [wolR_ok (by rw [numsR_len]; exact h3) (nums_ok hp), word_nums hp]
      · rw [beginR_ok ⟨hp, hx⟩, comN_join, join_left]
      · rw [endR_ok ⟨hp, hy⟩, rev_join, comN_join, rev_size, show (x ++ y).size - y.size = x.size by rw [ByteArray.size_append]; omega, join_right]
  · rw [productR_bad hxy] at h
    exact absurd h (by decide)

end Go.Proofs.YtkemdiefoohdjabGreat

/-! ### Draw03 -/
namespace Go.Proofs.YtkemdiefoohdjabGreat
set_option linter.unusedVariables false
set_option linter.unusedSimpArgs false
open Go.RowKit

theorem OwnI.look {w : World} {B : Nat} {v : Value} {L : List Int} (h : OwnI w B v L) : ∃ ad cap, v = .slice ad L.length cap ∧ ∀ j (hj : j < L.length), ∃ g, ad = some ⟨g, 0, none⟩ ∧ g < w.heap.size ∧ j < cap ∧ w.cell? ⟨g, j, none⟩ = some (.int .i64 (L[j]'hj)) := by
  by_cases h0 : L = []
  · subst h0
    obtain ⟨a, c, rfl⟩ := h.empty
    exact ⟨a, c, rfl, fun j hj => absurd hj (Nat.not_lt_zero _)⟩
  · obtain ⟨g, c, rfl, _, hg, hc, _, cell, _⟩ := h.row (List.length_pos_iff.2 h0)
    exact ⟨_, c, rfl, fun j hj => ⟨g, rfl, hg, by omega, cell j hj⟩⟩
theorem triple_let : ∀ q, q < 41 → ∀ b ∈ (namedS 3 q).take q, 97 ≤ b.toNat ∧ b.toNat ≤ 101 := by decide +kernel
theorem triple_w {q : Nat} (h : q < 41) : IsW (bt ((namedS 3 q).take q)) := by
  rw [isW_bl]
  show ((namedS 3 q).take q).length ≤ 60 ∧ _
  exact ⟨by rw [List.length_take]; omega, triple_let q h⟩

set_option maxRecDepth 100000 in
set_option maxHeartbeats 1000000 in
theorem l03Draw_any (w0 W : World) (b : Nat) (hS : Src w0 W b) (hB : Below w0.heap.size w0 W) :
    Calls Tryz.prog 50 #[.pointer (some ⟨b, 0, none⟩)] W (DrawnT 60 w0 W b) := by
  have HB0 := hS.ge
  have CN := Lib.hid (l01Next_i w0 W b 4 hS hB (by omega) (by omega))
  clear hS
  go_enter Tryz.func50, Tryz.ntmps50
  go_wp2_with fail
  refine CN.out.mono ?_
  rintro e W1 ⟨v, rfl, v0, v1, s1, g1⟩
  have hB1 := below_src hB HB0 g1
  have hbl := s1.lt
  by_cases h0 : v = 0
  · subst h0
    have CK := Lib.hid (l01Next_i w0 W1 b 40 s1 hB1 (by omega) (by omega))
    go_wp2_with fail
    refine CK.out.mono ?_
    rintro e W2 ⟨q, rfl, q0, q1, s2, g2⟩
    have hB2 := below_src hB1 HB0 g2
    obtain ⟨q, rfl⟩ := Int.eq_ofNat_of_zero_le q0
    have hway := namesL_way 3 (by decide)
    have CM := Lib.hid (l01Named_some (namesL[3]'(by decide)) q 3 W2 (by omega) (by omega) hway)
    go_wp2_with fail
    refine CM.out.mono ?_
    rintro e W3 ⟨rfl, b3⟩
    have s3 := s2.below b3
    have hB3 := hB2.then b3
    have G3 := grown_trans (grown_trans g1 g2) (grown_of_below b3 (some b))
    have hq60 : (bt ((namedS 3 q).take q)).size ≤ 60 := by rw [bt_size, List.length_take]; omega
    have C1 := Lib.hid (l01Next_i w0 W3 b 5 s3 hB3 (by omega) (by omega))
    clear CM hway g1 g2 s2 hB2 s1 hB1 CN CK b3
    go_wp2_with fail
    refine C1.out.mono ?_
    rintro e W4 ⟨x1, rfl, x10, x11, s4, g4⟩
    have hB4 := below_src hB3 HB0 g4
    have G4 := grown_trans G3 g4
    have C2 := Lib.hid (l01Next_i w0 W4 b 5 s4 hB4 (by omega) (by omega))
    clear C1 s3 hB3 G3 g4
    go_wp2_with fail
    refine C2.out.mono ?_
    rintro e W5 ⟨x2, rfl, x20, x21, s5, g5⟩
    have hB5 := below_src hB4 HB0 g5
    have G5 := grown_trans G4 g5
    have C3 := Lib.hid (l01Next_i w0 W5 b 5 s5 hB5 (by omega) (by omega))
    clear C2 s4 hB4 G4 g5
    go_wp2_with fail
    refine C3.out.mono ?_
    rintro e W6 ⟨x3, rfl, x30, x31, s6, g6⟩
    have hB6 := below_src hB5 HB0 g6
    have G6 := grown_trans G5 g6
    clear C3 s5 hB5 G5 g6
    have hwx := triple_w (q := q) (by omega)
    have hok : okN [x1, x2, x3, 0, 0] := fun j hj => by
      have hj5 : j < 5 := hj
      match j, hj5 with
      | 0, _ => exact ⟨x10, by show x1 ≤ 4; omega⟩
      | 1, _ => exact ⟨x20, by show x2 ≤ 4; omega⟩
      | 2, _ => exact ⟨x30, by show x3 ≤ 4; omega⟩
      | 3, _ => exact ⟨by show (0 : Int) ≤ 0; omega, by show (0 : Int) ≤ 4; omega⟩
      | 4, _ => exact ⟨by show (0 : Int) ≤ 0; omega, by show (0 : Int) ≤ 4; omega⟩
    have hol : OwnI (W6.alloc (.cells #[.int .i64 x1, .int .i64 x2, .int .i64 x3, .int .i64 0, .int .i64 0] 2)) W6.heap.size (.slice (some ⟨W6.heap.size, 0, none⟩) 5 5) [x1, x2, x3, 0, 0] :=
      World.ownsRow_lit W6 #[.int .i64 x1, .int .i64 x2, .int .i64 x3, .int .i64 0, .int .i64 0] 5 (Nat.le_refl _) (by decide) (by simp)
    have CR := Lib.hid (l01Renamed_any (bt ((namedS 3 q).take q)) W6.heap.size _ [x1, x2, x3, 0, 0] _ hwx hol rfl hok)
    have hrs : (wordB (renL (bt ((namedS 3 q).take q)) [x1, x2, x3, 0, 0])).size ≤ 60 := by
      show (wordL _).length ≤ 60
      unfold wordL
      rw [List.length_map, renL_len]
      exact hq60
    have s7 := s6.below (Below.new W6 (.cells #[.int .i64 x1, .int .i64 x2, .int .i64 x3, .int .i64 0, .int .i64 0] 2))
    have G7 := grown_trans G6 (grown_of_below (Below.new W6 (.cells #[.int .i64 x1, .int .i64 x2, .int .i64 x3, .int .i64 0, .int .i64 0] 2)) (some b))
    clear hol hok hwx
    go_wp2_with fail
    refine CR.out.mono ?_
    rintro e W8 ⟨rfl, b8⟩
    generalize wordB (renL (bt ((namedS 3 q).take q)) [x1, x2, x3, 0, 0]) = o at *
    go_wp2_with fail
    go_ret
    exact ⟨o, rfl, hrs, s7.below b8, grown_trans G7 (grown_of_below b8 (some b))⟩
  · by_cases h1 : v = 1
    · subst h1
      go_wp2_with fail
      refine (l01Pick_any w0 _ b _ [2, 3, 3, 4] (s1.below (Below.new _ _)) (hB1.alloc hB1.size _) (by simp) (by omega) (by decide) (by decide) (cells_new_ints W1 [2, 3, 3, 4] _)).mono ?_
      rintro e W2 ⟨k, rfl, hk, s2, g2⟩
      have hk2 : 2 ≤ k ∧ k ≤ 4 := by simp at hk; omega
      have hB2 := below_src (hB1.alloc hB1.size _) HB0 g2
      have G2 := grown_trans g1 (grown_trans (grown_of_below (Below.new W1 _) (some b)) g2)
      clear hk
      have CK := Lib.hid (l01Next_i w0 W2 b 24 s2 hB2 (by omega) (by omega))
      go_wp2_with fail
      refine CK.out.mono ?_
      rintro e W3 ⟨q, rfl, q0, q1, s3, g3⟩
      have hB3 := below_src hB2 HB0 g3
      have G3 := grown_trans G2 g3
      clear CK s2 G2
      go_wp2_with fail
      go_loopg [6, 7] 24 (fun g s6 s7 wr => ∃ (t : ByteArray) (j : Int), 0 ≤ j ∧ j ≤ g ∧ t.size + j.toNat ≤ 24 ∧ s6 = .string t ∧ s7 = .int .i64 j ∧ Src w0 wr b ∧ Below w0.heap.size w0 wr ∧ W.grownBy wr (some b))
      case atStart => exact ⟨⟨#[]⟩, q, by omega, by omega, by show 0 + _ ≤ 24; omega, rfl, rfl, s3, hB3, G3⟩
      case round =>
        obtain ⟨t, j, j0, jg, ht, rfl, rfl, hs, hBr, hG⟩ := hrel
        by_cases hp : 0 < j
        · obtain ⟨g, rfl⟩ : ∃ g, gk = g + 1 := ⟨gk - 1, by omega⟩
          have CK := Lib.hid (l01Next_i w0 wr b k hs hBr (by omega) (by omega))
          go_wp2_with fail
          refine CK.out.mono ?_
          rintro e W4 ⟨c, rfl, c0, c1, s4, g4⟩
          have hB4 := below_src hBr HB0 g4
          have G4 := grown_trans hG g4
          clear CK
          go_wp2_with fail
          refine (l01Letter_any c W4 c0 (by omega)).mono ?_
          rintro e W5 ⟨rfl, b5⟩
          have s5 := s4.below b5
          have hB5 := hB4.then b5
          have G5 := grown_trans G4 (grown_of_below b5 (some b))
          have hsum : ∀ W, (Op.stringOp .add t ⟨#[letB c]⟩).run Tryz.prog W = .ok (.string (t ++ ⟨#[letB c]⟩)) W := fun W => run_string_add_sum W _ _ (by show t.size + 1 ≤ _; omega)
          have y1 : (t ++ (⟨#[letB c]⟩ : ByteArray)).size = t.size + 1 := by rw [ByteArray.size_append]; rfl
          generalize t ++ (⟨#[letB c]⟩ : ByteArray) = o1 at *
          have CE := Lib.hid (l03First_end o1 ((t.size : Int) + 1) W5 (by omega) (by omega) (by omega))
          clear s4 hB4 G4 g4 hs hBr hG b5
          go_wp2_with fail
          refine CE.out.mono ?_
          rintro e W6 ⟨a, d, rfl, b6⟩
          have s6 := s5.below b6
          have hB6 := hB5.then b6
          have G6 := grown_trans G5 (grown_of_below b6 (some b))
          generalize decide (¬ sa (bl o1) o1.size = 0) = ok
          clear CE s5 hB5 G5 b6
          have CN := Lib.hid (l01Next_i w0 W6 b 9 s6 hB6 (by omega) (by omega))
          cases ok with
          | false =>
            go_wp2_with fail
            go_roundg g
            case measure => omega
            case rel => exact ⟨o1, j - 1, by omega, by omega, by omega, rfl, by go_num, s6, hB6, G6⟩
          | true =>
            go_wp2_with fail
            refine CN.out.mono ?_
            rintro e W7 ⟨z, rfl, z0, z1, s7, g7⟩
            have hB7 := below_src hB6 HB0 g7
            have G7 := grown_trans G6 g7
            by_cases hz : z = 0
            · subst hz
              go_wp2_with fail
              go_roundg g
              case measure => omega
              case rel => exact ⟨o1, j - 1, by omega, by omega, by omega, rfl, by go_num, s7, hB7, G7⟩
            · go_wp2_with fail
              go_roundg g
              case measure => omega
              case rel => exact ⟨t, j - 1, by omega, by omega, by omega, rfl, by go_num, s7, hB7, G7⟩
        · go_wp2_with fail
          go_ret
          exact ⟨t, rfl, by omega, hs, hG⟩
    · have CD := Lib.hid (l01Draw_any w0 W1 b s1 hB1)
      go_wp2_with fail
      refine CD.out.mono ?_
      rintro e W2 ⟨x, rfl, hx, s2, g2⟩
      go_wp2_with fail
      go_ret
      exact ⟨x, rfl, hx, s2, grown_trans g1 g2⟩

set_option maxRecDepth 100000 in
theorem l03Spoil_any (a : Option Addr) (len cap : Nat) (zs : List Int) (w : World) (h : IsRow .u8 w a len cap zs) (hl : len ≤ 1048576) :
    Calls Tryz.prog 26 #[.slice a len cap] w (OneT w) := by
  have CF := Lib.hid (l01From_any a len cap zs w h hl)
  clear h
  go_enter Tryz.func26, Tryz.ntmps26
  go_wp2_with fail
  refine CF.out.mono ?_
  rintro e W0 ⟨rfl, s0, hB0⟩
  have HB0 := s0.ge
  have CD := Lib.hid (l03Draw_any w W0 w.heap.size s0 hB0)
  clear CF
  go_wp2_with fail
  refine CD.out.mono ?_
  rintro e W1 ⟨x, rfl, hx, s1, g1⟩
  have hB1 := below_src hB0 HB0 g1
  have CB := Lib.hid (l01Bad_any w W1 w.heap.size x s1 hB1 (by omega))
  clear CD
  go_wp2_with fail
  refine CB.out.mono ?_
  rintro e W2 ⟨y, rfl, hy, s2, g2⟩
  have hB2 := below_src hB1 HB0 g2
  go_wp2_with fail
  go_ret
  exact ⟨y, rfl, by omega, hB2⟩

end Go.Proofs.YtkemdiefoohdjabGreat

/-! ### Draw03R -/
namespace Go.Proofs.YtkemdiefoohdjabGreat
set_option linter.unusedVariables false
set_option linter.unusedSimpArgs false
open Go.RowKit

set_option maxRecDepth 100000 in
theorem DrawRunsOf_any (a : Option Addr) (len cap : Nat) (zs : List Int) (w : World) (h : IsRow .u8 w a len cap zs) (hl : len ≤ 1048576) :
    Calls Tryz.prog 5 #[.slice a len cap] w (OneT w) := by
  have CF := Lib.hid (l03Spoil_any a len cap zs w h hl)
  clear h
  go_enter Tryz.func5, Tryz.ntmps5
  go_wp2_with fail
  refine CF.out.mono ?_
  rintro e W0 ⟨x, rfl, hx, hB⟩
  go_wp2_with fail
  go_ret
  exact ⟨x, rfl, hx, hB⟩

set_option maxRecDepth 100000 in
theorem DrawCountPowers_any (a : Option Addr) (len cap : Nat) (zs : List Int) (w : World) (h : IsRow .u8 w a len cap zs) (hl : len ≤ 1048576) :
    Calls Tryz.prog 22 #[.slice a len cap] w (TextI w) := by
  have CS := Lib.hid (l03Spoil_any a len cap zs w h hl)
  have CF := Lib.hid (fun (w' : World) (b : Below w.heap.size w w') => l01From_any a len cap zs w' (h.below b) hl)
  clear h
  go_enter Tryz.func22, Tryz.ntmps22
  go_wp2_with fail
  refine CS.out.mono ?_
  rintro e V ⟨x, rfl, hx, hV⟩
  have CG := Lib.hid (CF.out V hV)
  clear CF CS
  go_wp2_with fail
  refine CG.out.mono ?_
  rintro e W0 ⟨rfl, s0, hB0⟩
  have HB0 := s0.ge
  have hl0 := s0.lt
  clear CG
  go_wp2_with fail
  refine (l01Pick_any V _ V.heap.size _ [2, 2, 3, 4, 60, 1, 61] (s0.below (Below.new _ _)) (hB0.alloc hB0.size _) (by simp) (by omega) (by decide) (by decide) (cells_new_ints W0 [2, 2, 3, 4, 60, 1, 61] _)).mono ?_
  rintro e W1 ⟨z, rfl, hz, s1, g1⟩
  have hz2 : 0 ≤ z ∧ z ≤ 61 := by simp at hz; omega
  have hB1 := below_src (hB0.alloc hB0.size _) HB0 g1
  clear hz s0 hB0 g1 hl0
  go_wp2_with fail
  go_ret2
  exact ⟨x, z, rfl, hx, wf_near (by omega) (by omega), hV.then hB1⟩

set_option maxRecDepth 100000 in
theorem DrawPowersIn_any (a : Option Addr) (len cap : Nat) (zs : List Int) (w : World) (h : IsRow .u8 w a len cap zs) (hl : len ≤ 1048576) :
    Calls Tryz.prog 25 #[.slice a len cap] w (TextI w) := by
  have CS := Lib.hid (l03Spoil_any a len cap zs w h hl)
  have CF := Lib.hid (fun (w' : World) (b : Below w.heap.size w w') => l01From_any a len cap zs w' (h.below b) hl)
  clear h
  go_enter Tryz.func25, Tryz.ntmps25
  go_wp2_with fail
  refine CS.out.mono ?_
  rintro e V ⟨x, rfl, hx, hV⟩
  have CG := Lib.hid (CF.out V hV)
  clear CF CS
  go_wp2_with fail
  refine CG.out.mono ?_
  rintro e W0 ⟨rfl, s0, hB0⟩
  have HB0 := s0.ge
  have hl0 := s0.lt
  clear CG
  go_wp2_with fail
  refine (l01Pick_any V _ V.heap.size _ [2, 2, 2, 3, 3, 4, 5, 60, 1, 61] (s0.below (Below.new _ _)) (hB0.alloc hB0.size _) (by simp) (by omega) (by decide) (by decide) (cells_new_ints W0 [2, 2, 2, 3, 3, 4, 5, 60, 1, 61] _)).mono ?_
  rintro e W1 ⟨z, rfl, hz, s1, g1⟩
  have hz2 : 0 ≤ z ∧ z ≤ 61 := by simp at hz; omega
  have hB1 := below_src (hB0.alloc hB0.size _) HB0 g1
  clear hz s0 hB0 g1 hl0
  go_wp2_with fail
  go_ret2
  exact ⟨x, z, rfl, hx, wf_near (by omega) (by omega), hV.then hB1⟩

end Go.Proofs.YtkemdiefoohdjabGreat

/-! ### Like -/
namespace Go.Proofs.YtkemdiefoohdjabGreat
set_option linter.unusedVariables false
set_option linter.unusedSimpArgs false
open Go.RowKit

set_option maxRecDepth 100000 in
theorem big_no (a : Option Addr) (len cap : Nat) (w : World) (h : len ≤ 4096) :
    Calls Tryz.prog 4 #[.slice a len cap] w fun e w' => e = .returned (.bool false) ∧ Below w.heap.size w w' := by
  go_enter Tryz.func4, Tryz.ntmps4
  go_wp2
  go_ret
  exact ⟨ret_bool (by simp; omega), Below.refl _ _⟩
set_option maxRecDepth 100000 in
theorem big_yes (a : Option Addr) (len cap : Nat) (w : World) (h : 4096 < len) :
    Calls Tryz.prog 4 #[.slice a len cap] w fun e w' => e = .returned (.bool true) ∧ Below w.heap.size w w' := by
  go_enter Tryz.func4, Tryz.ntmps4
  go_wp2
  go_ret
  exact ⟨ret_bool (by simp; omega), Below.refl _ _⟩

set_option maxRecDepth 100000 in
theorem likeInts_yes (B1 B2 : Nat) (v1 v2 : Value) (L : List Int) (w : World) (h1 : OwnI w B1 v1 L) (h2 : OwnI w B2 v2 L) :
    Calls Tryz.prog 42 #[v1, v2] w fun e w' => e = .returned (.bool true) ∧ Below w.heap.size w w' := by
  by_cases h0 : L = []
  · subst h0
    obtain ⟨a1, c1, rfl⟩ := h1.empty
    obtain ⟨a2, c2, rfl⟩ := h2.empty
    clear h1 h2
    go_enter Tryz.func42, Tryz.ntmps42
    go_wp2
    refine wp_loop_rounds 1 ?_
    rw [rounds_succ]
    go_wp2
    go_ret
    exact ⟨rfl, Below.refl _ _⟩
  · have hn : 0 < L.length := List.length_pos_iff.2 h0
    obtain ⟨g1, c1, rfl, _, hg1, hc1, hm, cell1, _⟩ := h1.row hn
    obtain ⟨g2, c2, rfl, _, hg2, hc2, _, cell2, _⟩ := h2.row hn
    unfold maxLen at hm
    have C1 := Lib.hid cell1
    have C2 := Lib.hid cell2
    clear h1 h2 cell1 cell2 h0
    go_enter Tryz.func42, Tryz.ntmps42
    go_wp2
    go_loopw [5] (fun i wr => ∃ k : Nat, k ≤ L.length ∧ i = .int .i64 k ∧ Below w.heap.size w wr) (fun i _ => L.length - (intOf i).toNat)
    case atStart => exact ⟨0, Nat.zero_le _, rfl, Below.refl _ _⟩
    case round =>
      obtain ⟨k, hk, rfl, hB⟩ := hrel
      by_cases hp : k < L.length
      · have k1 : wr.cell? ⟨g1, k, none⟩ = some (.int .i64 (L[k]'hp)) := by rw [(bcell hB).1 g1 k hg1]; exact C1.out k hp
        have k2 : wr.cell? ⟨g2, k, none⟩ = some (.int .i64 (L[k]'hp)) := by rw [(bcell hB).1 g2 k hg2]; exact C2.out k hp
        have hpc1 : k < c1 := by omega
        have hpc2 : k < c2 := by omega
        generalize L[k]'hp = z at k1 k2
        go_wp2
        go_quiet (fail)
        go_wp2
        go_roundw
        case rel => exact ⟨k + 1, by omega, by go_num, hB.drewN _⟩
        case measure => simp [intOf]; omega
      · go_wp2
        go_ret
        exact ⟨rfl, hB⟩

set_option maxRecDepth 100000 in
theorem words5_yes (B1 B2 : Nat) (v1 v2 : Value) (L : List ByteArray) (w : World) (h1 : OwnS w B1 v1 L) (h2 : OwnS w B2 v2 L) :
    Calls Tryz.prog 16 #[v1, v2] w fun e w' => e = .returned (.bool true) ∧ Below w.heap.size w w' := by
  by_cases h0 : L = []
  · subst h0
    obtain ⟨a1, c1, rfl⟩ := h1.empty
    obtain ⟨a2, c2, rfl⟩ := h2.empty
    clear h1 h2
    go_enter Tryz.func16, Tryz.ntmps16
    go_wp2
    refine wp_loop_rounds 1 ?_
    rw [rounds_succ]
    go_wp2
    go_ret
    exact ⟨rfl, Below.refl _ _⟩
  · have hn : 0 < L.length := List.length_pos_iff.2 h0
    obtain ⟨g1, c1, rfl, _, hg1, hc1, hm, cell1, _⟩ := h1.row hn
    obtain ⟨g2, c2, rfl, _, hg2, hc2, _, cell2, _⟩ := h2.row hn
    unfold maxLen at hm
    have C1 := Lib.hid cell1
    have C2 := Lib.hid cell2
    clear h1 h2 cell1 cell2 h0
    go_enter Tryz.func16, Tryz.ntmps16
    go_wp2
    go_loopw [5] (fun i wr => ∃ k : Nat, k ≤ L.length ∧ i = .int .i64 k ∧ Below w.heap.size w wr) (fun i _ => L.length - (intOf i).toNat)
    case atStart => exact ⟨0, Nat.zero_le _, rfl, Below.refl _ _⟩
    case round =>
      obtain ⟨k, hk, rfl, hB⟩ := hrel
      by_cases hp : k < L.length
      · have k1 : wr.cell? ⟨g1, k, none⟩ = some (.string (L[k]'hp)) := by rw [(bcell hB).1 g1 k hg1]; exact C1.out k hp
        have k2 : wr.cell? ⟨g2, k, none⟩ = some (.string (L[k]'hp)) := by rw [(bcell hB).1 g2 k hg2]; exact C2.out k hp
        have hpc1 : k < c1 := by omega
        have hpc2 : k < c2 := by omega
        generalize L[k]'hp = z at k1 k2
        go_wp2
        go_quiet (fail)
        go_wp2
        go_roundw
        case rel => exact ⟨k + 1, by omega, by go_num, hB.drewN _⟩
        case measure => simp [intOf]; omega
      · go_wp2
        go_ret
        exact ⟨rfl, hB⟩

end Go.Proofs.YtkemdiefoohdjabGreat

/-! ### RevPlain -/
namespace Go.Proofs.YtkemdiefoohdjabGreat
set_option linter.unusedVariables false
set_option linter.unusedSimpArgs false

/-- The list with its k first and its k last numbers exchanged. -/
def revK (L : List Int) (k : Nat) : List Int := (List.range L.length).map fun j => if j < k ∨ L.length - k ≤ j then L.getD (L.length - 1 - j) 0 else L.getD j 0
theorem revK_len (L : List Int) (k : Nat) : (revK L k).length = L.length := by simp [revK]
theorem revK_get (L : List Int) (k j : Nat) (h : j < (revK L k).length) : (revK L k)[j]'h = if j < k ∨ L.length - k ≤ j then L.getD (L.length - 1 - j) 0 else L.getD j 0 := by simp [revK]
theorem revK_zero (L : List Int) : revK L 0 = L := by
  apply List.ext_getElem (revK_len L 0)
  intro i h1 h2
  rw [revK_get, if_neg (by omega), List.getD_eq_getElem?_getD, List.getElem?_eq_getElem h2]
  rfl
theorem revK_mid (L : List Int) (k : Nat) (h : k < L.length) (h2 : 2 * k + 1 ≤ L.length) : (revK L k)[k]'(by rw [revK_len]; exact h) = L.getD k 0 ∧ (revK L k)[L.length - 1 - k]'(by rw [revK_len]; omega) = L.getD (L.length - 1 - k) 0 := by
  rw [revK_get, revK_get]
  by_cases e : 2 * k + 1 = L.length
  · rw [if_neg (by omega), if_neg (by omega)]
    exact ⟨rfl, rfl⟩
  · rw [if_neg (by omega), if_neg (by omega)]
    exact ⟨rfl, rfl⟩
theorem revK_step (L : List Int) (k : Nat) (h2 : 2 * k + 1 < L.length) : (((revK L k).map (Value.int .i64)).set k (.int .i64 (L.getD (L.length - 1 - k) 0))).set (L.length - 1 - k) (.int .i64 (L.getD k 0)) = (revK L (k + 1)).map (Value.int .i64) := by
  apply List.ext_getElem
  · simp [revK_len]
  · intro i h1 h3
    simp only [List.getElem_set, List.getElem_map, revK_get]
    have hi : i < L.length := by simpa [revK_len] using h3
    by_cases e1 : L.length - 1 - k = i
    · subst e1
      rw [if_pos rfl, if_pos (by omega)]
      congr 2
      omega
    · rw [if_neg e1]
      by_cases e2 : k = i
      · subst e2
        rw [if_pos rfl, if_pos (by omega)]
      · rw [if_neg e2]
        by_cases e3 : i < k ∨ L.length - k ≤ i
        · rw [if_pos e3, if_pos (by omega)]
        · rw [if_neg e3, if_neg (by omega)]
theorem revK_end (L : List Int) (k : Nat) (h : L.length ≤ 2 * k + 1) : revK L k = L.reverse := by
  apply List.ext_getElem (by rw [revK_len, List.length_reverse])
  intro i h1 h2
  rw [revK_get, List.getElem_reverse]
  have hi : i < L.length := by rw [revK_len] at h1; exact h1
  have e : L.getD (L.length - 1 - i) 0 = L[L.length - 1 - i]'(by omega) := by rw [List.getD_eq_getElem?_getD, List.getElem?_eq_getElem (by omega)]; rfl
  by_cases c : i < k ∨ L.length - k ≤ i
  · rw [if_pos c, e]
  · rw [if_neg c, ← e]
    congr 1
    omega

/-- The list with its first k numbers turned by f. -/
def mapK (f : Int → Int) (L : List Int) (k : Nat) : List Int := (L.take k).map f ++ L.drop k
theorem mapK_zero (f : Int → Int) (L : List Int) : mapK f L 0 = L := by simp [mapK]
theorem mapK_len (f : Int → Int) (L : List Int) (k : Nat) (h : k ≤ L.length) : (mapK f L k).length = L.length := by
  simp [mapK]; omega
theorem mapK_end (f : Int → Int) (L : List Int) : mapK f L L.length = L.map f := by simp [mapK]
theorem mapK_get (f : Int → Int) (L : List Int) (k : Nat) (h : k < L.length) : (mapK f L k)[k]? = some (L[k]'h) := by
  unfold mapK
  rw [List.getElem?_append_right (by rw [List.length_map, List.length_take]; omega), List.length_map, List.length_take, List.getElem?_drop, List.getElem?_eq_getElem (by omega)]
  congr 2
  omega
theorem mapK_step (f : Int → Int) (L : List Int) (k : Nat) (h : k < L.length) : ((mapK f L k).map (Value.int .i64)).set k (.int .i64 (f (L[k]'h))) = (mapK f L (k + 1)).map (Value.int .i64) := by
  apply List.ext_getElem
  · simp [mapK]; omega
  · intro i h1 h2
    simp only [List.getElem_set, List.getElem_map]
    have hi : i < L.length := by
      rw [List.length_map, mapK_len f L (k + 1) (by omega)] at h2; exact h2
    have hk : ((L.take k).map f).length = k := by rw [List.length_map, List.length_take]; omega
    have hk1 : ((L.take (k + 1)).map f).length = k + 1 := by rw [List.length_map, List.length_take]; omega
    by_cases e : k = i
    · subst e
      rw [if_pos rfl]
      congr 1
      unfold mapK
      rw [List.getElem_append_left (by omega), List.getElem_map, List.getElem_take]
    · rw [if_neg e]
      congr 1
      unfold mapK
      simp only [List.getElem_append, hk, hk1]
      by_cases h3 : i < k
      · rw [dif_pos h3, dif_pos (by omega), List.getElem_map, List.getElem_map, List.getElem_take, List.getElem_take]
      · rw [dif_neg h3, dif_neg (by omega), List.getElem_drop, List.getElem_drop]
        congr 1
        omega

end Go.Proofs.YtkemdiefoohdjabGreat

/-! ### Reverse64 -/
namespace Go.Proofs.YtkemdiefoohdjabGreat
set_option linter.unusedVariables false
set_option linter.unusedSimpArgs false
open Go.RowKit

theorem grown_drew {w w' : World} {r : Option Nat} (h : w.grownBy w' r) : w.grownBy w'.drew r := ⟨h.os, h.tape, h.output, h.size, h.block⟩

set_option maxRecDepth 100000 in
set_option maxHeartbeats 1000000 in
theorem reverseI (B : Nat) (v : Value) (L : List Int) (w : World) (h : OwnI w B v L) (hl : L.length ≤ 4096) :
    Calls Tryz.prog 46 #[v] w fun e w' => e = .returned (.tuple #[]) ∧ OwnI w' B v L.reverse ∧ w.grownBy w' v.ownBlock := by
  by_cases h0 : L = []
  · subst h0
    obtain ⟨a1, c1, rfl⟩ := h.empty
    have H := Lib.hid h
    clear h
    go_enter Tryz.func46, Tryz.ntmps46
    go_wp2
    refine wp_loop_rounds 1 ?_
    rw [rounds_succ]
    go_wp2
    go_end0
    exact ⟨rfl, H.out, grown_refl _ _⟩
  · have hn : 0 < L.length := List.length_pos_iff.2 h0
    obtain ⟨g, c, rfl, hBg, hg, hc, hm, _, _⟩ := h.row hn
    have H := Lib.hid h
    clear h h0
    go_enter Tryz.func46, Tryz.ntmps46
    go_wp2
    go_loopw [2, 3] (fun i j wr => ∃ k : Nat, 2 * k ≤ L.length ∧ i = .int .i64 (k : Int) ∧ j = .int .i64 ((L.length : Int) - 1 - k) ∧ wr.ownsRow B 2 1 (.slice (some ⟨g, 0, none⟩) L.length c) L.length ((revK L k).map (Value.int .i64)) ∧ w.grownBy wr (some g))
      (fun i _ _ => L.length - (intOf i).toNat)
    case atStart => exact ⟨0, Nat.zero_le _, rfl, by simp, by have := H.out; unfold OwnI at this; rw [revK_zero]; exact this, grown_refl _ _⟩
    case round =>
      obtain ⟨k, hk, rfl, rfl, hown, hgr⟩ := hrel
      by_cases hp : 2 * k + 1 < L.length
      · obtain ⟨m, hm1⟩ : ∃ m : Nat, (L.length : Int) - 1 - k = m := ⟨L.length - 1 - k, by omega⟩
        have hm2 : L.length - 1 - k = m := by omega
        have hmid := revK_mid L k (by omega) (by omega)
        have hst := hown.stored k (.int .i64 (L.getD m 0))
        have hst2 := hst.1.stored m (.int .i64 (L.getD k 0))
        have hstep := revK_step L k hp
        rw [hm2] at hstep
        rw [hstep] at hst2
        have k1 : wr.cell? ⟨g, k, none⟩ = some (.int .i64 (L.getD k 0)) := by
          rw [hown.cellAt k (by omega), List.getElem?_map, List.getElem?_eq_getElem (by rw [revK_len]; omega), hmid.1]; rfl
        have k2 : wr.cell? ⟨g, m, none⟩ = some (.int .i64 (L.getD m 0)) := by
          rw [hown.cellAt m (by omega), List.getElem?_map, List.getElem?_eq_getElem (by rw [revK_len]; omega)]
          have := hmid.2
          simp only [hm2] at this
          rw [this]; rfl
        have f1 : wr.frozen? ⟨g, k, none⟩ = false := hown.frozenAt k
        have f2 : wr.frozen? ⟨g, m, none⟩ = false := hown.frozenAt m
        have HS := Lib.hid hst2
        have hkm : (k : Int) < (m : Int) := by omega
        have hkc : (k : Int) < (L.length : Int) := by omega
        have hmc : (m : Int) < (L.length : Int) := by omega
        rw [hm1]
        generalize L.getD k 0 = a at *
        generalize L.getD m 0 = b at *
        clear hst hst2 hstep hmid hown
        go_wp2_with fail
        go_region
        go_wp2
        have hgr2 := grown_drew (grown_set (grown_set hgr k (.int .i64 b)) m (.int .i64 a))
        go_roundw
        case rel => exact ⟨k + 1, by omega, by go_num, by congr 1; omega, HS.out.1, hgr2⟩
        case measure => simp [intOf] <;> omega
      · have hke := revK_end L k (by omega)
        have HO := Lib.hid hown
        have HK := Lib.hid hke
        have hp2 : ¬ (k : Int) < (L.length : Int) - 1 - k := by omega
        clear hown hke
        go_wp2
        go_end0
        refine ⟨rfl, ?_, hgr⟩
        have h2 := HO.out
        rw [HK.out] at h2
        unfold OwnI
        rw [List.length_reverse]
        exact h2

end Go.Proofs.YtkemdiefoohdjabGreat

/-! ### Periods -/
namespace Go.Proofs.YtkemdiefoohdjabGreat
set_option linter.unusedVariables false
set_option linter.unusedSimpArgs false
open Go.RowKit

set_option maxRecDepth 100000 in
set_option maxHeartbeats 1000000 in
theorem impl_PeriodsOf (x : ByteArray) (w : World) (sx : x.size ≤ maxLen) :
    Calls Tryz.prog 21 #[.string x] w (RetI (periodsR x).1 (periodsR x).2 w) := by
  by_cases h : IsW x
  · rw [periodsR_ok h]
    have h1 := h.size
    have cb := impl_BordersOf x
    rw [bordersR_ok h] at cb
    have CB := Lib.hid cb
    clear h cb
    go_enter Tryz.func21, Tryz.ntmps21
    go_wp2_with fail
    refine (CB.out _ sx).mono ?_
    rintro e w1 ⟨v, rfl, o1, b1⟩
    have hlp := bordsR_len (bl x) x.size
    have hmem : ∀ z ∈ bordsR (bl x) x.size, 0 ≤ z ∧ z < x.size := fun z hz => bordsR_mem hz
    have hpe := pers_eq (bl x)
    rw [bl_len] at hpe
    have HPE := Lib.hid hpe
    clear hpe
    generalize bordsR (bl x) x.size = P at o1 hlp hmem HPE
    have HM := Lib.hid hmem
    clear hmem
    by_cases h0 : P = []
    · subst h0
      obtain ⟨a1, c1, rfl⟩ := o1.empty
      have HO := Lib.hid o1
      clear o1
      go_wp2_with fail
      refine wp_loop_rounds 1 ?_
      rw [rounds_succ]
      go_wp2_with fail
      refine (reverseI _ _ [] _ HO.out (by decide)).mono ?_
      rintro e w2 ⟨rfl, o2, g2⟩
      go_wp2
      go_ret2
      refine ⟨_, rfl, ?_, b1.grown g2 b1.size (fun k hk => (o2.lt k hk).1)⟩
      have h2 := HPE.out
      simp only [List.map_nil, List.reverse_nil] at h2
      rw [← h2]
      exact o2
    · have hn : 0 < P.length := List.length_pos_iff.2 h0
      obtain ⟨g, cp, rfl, hBg, hg, hc, hm, _, _⟩ := o1.row hn
      have O1 := Lib.hid o1
      clear o1 h0
      go_wp2_with fail
      go_loopw [18] (fun i wr => ∃ k : Nat, k ≤ P.length ∧ i = .int .i64 (k : Int) ∧ wr.ownsRow w.heap.size 2 1 (.slice (some ⟨g, 0, none⟩) P.length cp) P.length ((mapK (fun z => (x.size : Int) - z) P k).map (Value.int .i64)) ∧ w1.grownBy wr (some g))
        (fun i _ => P.length - (intOf i).toNat)
      case atStart => exact ⟨0, Nat.zero_le _, rfl, by rw [mapK_zero]; exact O1.out, grown_refl _ _⟩
      case round =>
        obtain ⟨k, hk, rfl, hown, hgr⟩ := hrel
        by_cases hp : k < P.length
        · have hmid := mapK_get (fun z => (x.size : Int) - z) P k hp
          have hst := hown.stored k (.int .i64 ((x.size : Int) - P[k]'hp))
          have hstep := mapK_step (fun z => (x.size : Int) - z) P k hp
          rw [hstep] at hst
          have hz := HM.out (P[k]'hp) (List.getElem_mem _)
          have k1 : wr.cell? ⟨g, k, none⟩ = some (.int .i64 (P[k]'hp)) := by
            rw [hown.cellAt k (by omega), List.getElem?_map, hmid]; rfl
          have f1 : wr.frozen? ⟨g, k, none⟩ = false := hown.frozenAt k
          have HS := Lib.hid hst
          have hkc : k < cp := by omega
          generalize P[k]'hp = z at *
          clear hst hstep hmid hown
          go_wp2
          go_roundw
          case rel => exact ⟨k + 1, by omega, by go_num, HS.out.1, grown_set hgr _ _⟩
          case measure => simp [intOf] <;> omega
        · have hke : k = P.length := by omega
          have ho2 : OwnI wr w.heap.size (.slice (some ⟨g, 0, none⟩) P.length cp) (P.map fun z => (x.size : Int) - z) := by
            rw [hke, mapK_end] at hown
            unfold OwnI
            rw [List.length_map]
            exact hown
          have HO := Lib.hid ho2
          clear ho2 hown
          go_wp2_with fail
          refine (reverseI _ _ _ _ HO.out (by rw [List.length_map]; omega)).mono ?_
          rintro e w2 ⟨rfl, o2, g2⟩
          go_wp2
          go_ret2
          refine ⟨_, rfl, ?_, (b1.grown hgr b1.size (fun q hq => by cases hq; exact hBg)).grown g2 (Nat.le_trans b1.size hgr.size) (fun q hq => (o2.lt q hq).1)⟩
          rw [← HPE.out]
          exact o2
  · rw [periodsR_bad h]
    have cb := impl_BordersOf x
    rw [bordersR_bad h] at cb
    have CB := Lib.hid cb
    clear h cb
    go_enter Tryz.func21, Tryz.ntmps21
    go_wp2_with fail
    refine (CB.out _ sx).mono ?_
    rintro e w1 ⟨v, rfl, o1, b1⟩
    go_wp2_with fail
    go_ret2
    exact ⟨_, rfl, OwnI.nil _ _, b1⟩

end Go.Proofs.YtkemdiefoohdjabGreat
