/- The model's draws: some text of a few letters. -/
import Derived.Test.YtinanajagkilaaaSrc
import Derived.Test.YtinanajagkilaaaLetter
import Derived.Test.YtinanajagkilaaaOwn
import Derived.Test.YtinanajagkilaaaPers
namespace Go.Proofs.Ytinanajagkilaaa
set_option linter.unusedVariables false
set_option linter.unusedSimpArgs false
open Go.RowKit

theorem Src.lt {w0 W : World} {b : Nat} (h : Src w0 W b) : b < W.heap.size := by
  obtain ⟨_, _, _, _, _, _, hb, _⟩ := h
  exact (Array.getElem?_eq_some_iff.1 hb).1
theorem Src.ge {w0 W : World} {b : Nat} (h : Src w0 W b) : w0.heap.size ≤ b := by
  obtain ⟨_, _, _, _, _, _, _, _, _, _, _, _, h⟩ := h
  exact h
theorem Src.below {w0 W W' : World} {b : Nat} (h : Src w0 W b) (k : Below W.heap.size W W') : Src w0 W' b := by
  have hl := h.lt
  obtain ⟨a, len, cap, zs, p, q, hb, r⟩ := h
  exact ⟨a, len, cap, zs, p, q, by rw [k.block b hl]; exact hb, r⟩
theorem grown_of_below {W W' : World} (k : Below W.heap.size W W') (r : Option Nat) : W.grownBy W' r := ⟨k.os, k.tape, k.output, k.size, fun j hj _ => k.block j hj⟩
theorem grown_trans {A B C : World} {r : Option Nat} (h : A.grownBy B r) (k : B.grownBy C r) : A.grownBy C r :=
  ⟨k.os.trans h.os, k.tape.trans h.tape, k.output.trans h.output, Nat.le_trans h.size k.size, fun j hj hne => (k.block j (Nat.lt_of_lt_of_le hj h.size) hne).trans (h.block j hj hne)⟩
theorem below_src {w0 W W' : World} {b : Nat} (hB : Below w0.heap.size w0 W) (hb : w0.heap.size ≤ b) (g : W.grownBy W' (some b)) : Below w0.heap.size w0 W' :=
  hB.grown g hB.size (fun k e => by cases e; exact hb)

theorem grown_cell {W W1 : World} {r : Option Nat} (g : W.grownBy W1 r) {p : Addr} (hp : p.block < W.heap.size) (hne : some p.block ≠ r) : W1.cell? p = W.cell? p := by
  unfold World.cell?
  rw [g.block _ hp hne]
/-- What a drawing function that hands back a text comes to: some text of at most N bytes. -/
def DrawnT (N : Nat) (w0 W : World) (b : Nat) (e : Ending) (W' : World) : Prop := ∃ x : ByteArray, e = .returned (.string x) ∧ x.size ≤ N ∧ Src w0 W' b ∧ W.grownBy W' (some b)
def DrawnI (lo hi : Int) (w0 W : World) (b : Nat) (e : Ending) (W' : World) : Prop := ∃ v : Int, e = .returned (.int .i64 v) ∧ lo ≤ v ∧ v ≤ hi ∧ Src w0 W' b ∧ W.grownBy W' (some b)

/-- The next number. -/
theorem l01Next_i (w0 W : World) (b : Nat) (n : Int) (hS : Src w0 W b) (hB : Below w0.heap.size w0 W) (h1 : 1 ≤ n) (hn : n ≤ 4611686018427387904) :
    Calls Try.prog 119 #[.pointer (some ⟨b, 0, none⟩), .int .i64 n] W (DrawnI 0 (n - 1) w0 W b) := by
  refine (l01Next_any w0 W b n hS hB hn (by omega)).mono ?_
  rintro e W' ⟨v, rfl, _, h2, h3, h4⟩
  have h5 := h2 h1
  exact ⟨v, rfl, h5.1, by omega, h3, h4⟩
theorem l01Next_0 (w0 W : World) (b : Nat) (n : Int) (hS : Src w0 W b) (hB : Below w0.heap.size w0 W) (h1 : 0 ≤ n) (hn : n ≤ 4611686018427387904) :
    Calls Try.prog 119 #[.pointer (some ⟨b, 0, none⟩), .int .i64 n] W (DrawnI 0 n w0 W b) := by
  refine (l01Next_any w0 W b n hS hB hn (by omega)).mono ?_
  rintro e W' ⟨v, rfl, h1', h2, h3, h4⟩
  refine ⟨v, rfl, ?_, ?_, h3, h4⟩
  · by_cases h : n < 1
    · rw [h1' h]; exact Int.le_refl _
    · exact (h2 (by omega)).1
  · by_cases h : n < 1
    · rw [h1' h]; omega
    · have := (h2 (by omega)).2; omega

theorem cells_new_ints (W : World) (xs : List Int) (t : TypeId) : ∀ j (h : j < xs.length), (W.alloc (.cells (xs.map (Value.int .i64)).toArray t)).cell? ⟨W.heap.size, j, none⟩ = some (.int .i64 (xs[j]'h)) := by
  intro j h
  rw [World.cell?_alloc_new]
  simp [h]

set_option maxRecDepth 100000 in
theorem l01Pick_any (w0 W : World) (b g : Nat) (xs : List Int) (hS : Src w0 W b) (hB : Below w0.heap.size w0 W) (hg : g < W.heap.size) (hgb : g ≠ b) (h0 : 0 < xs.length) (hn : xs.length ≤ 60)
    (hc : ∀ j (h : j < xs.length), W.cell? ⟨g, j, none⟩ = some (.int .i64 (xs[j]'h))) :
    Calls Try.prog 84 #[.pointer (some ⟨b, 0, none⟩), .slice (some ⟨g, 0, none⟩) xs.length xs.length] W fun e W' => ∃ v : Int, e = .returned (.int .i64 v) ∧ v ∈ xs ∧ Src w0 W' b ∧ W.grownBy W' (some b) := by
  have CN := Lib.hid (l01Next_i w0 W b xs.length hS hB (by omega) (by omega))
  have HC := Lib.hid hc
  clear hc hS
  go_enter Try.func84, Try.ntmps84
  go_wp2_with fail
  refine CN.out.mono ?_
  rintro e W1 ⟨v, rfl, v0, v1, s1, g1⟩
  obtain ⟨m, rfl⟩ := Int.eq_ofNat_of_zero_le v0
  have hm : m < xs.length := by omega
  have k1 : W1.cell? ⟨g, m, none⟩ = some (.int .i64 (xs[m]'hm)) := by
    rw [grown_cell g1 (p := ⟨g, m, none⟩) hg (fun e => hgb (Option.some.inj e))]; exact HC.out m hm
  have HM := Lib.hid (List.getElem_mem hm)
  generalize xs[m]'hm = z at k1 HM
  go_wp2
  go_ret
  exact ⟨z, rfl, HM.out, s1, g1⟩

set_option maxRecDepth 100000 in
set_option maxHeartbeats 1000000 in
theorem l01DrawOf_any (w0 W : World) (b : Nat) (n k : Int) (hS : Src w0 W b) (hB : Below w0.heap.size w0 W) (hn : n ≤ 100) (hn0 : 0 ≤ n) (hk1 : 1 ≤ k) (hk5 : k ≤ 5) :
    Calls Try.prog 121 #[.pointer (some ⟨b, 0, none⟩), .int .i64 n, .int .i64 k] W fun e W' => ∃ x : ByteArray, e = .returned (.string x) ∧ (x.size : Int) = n ∧ Src w0 W' b ∧ W.grownBy W' (some b) := by
  have HB0 := hS.ge
  obtain ⟨N, rfl⟩ := Int.eq_ofNat_of_zero_le hn0
  go_enter Try.func121, Try.ntmps121
  go_wp2
  go_loopg [7, 8] N (fun g s7 s8 wr => ∃ (j : Nat) (x : ByteArray), j + g = N ∧ x.size = j ∧ s7 = .string x ∧ s8 = .int .i64 (j : Int) ∧ Src w0 wr b ∧ W.grownBy wr (some b))
  case atStart => exact ⟨0, ⟨#[]⟩, by omega, rfl, rfl, rfl, hS, grown_refl _ _⟩
  case round =>
    clear hS
    obtain ⟨j, x, hj, hx, rfl, rfl, hS, hG⟩ := hrel
    by_cases hp : j < N
    · obtain ⟨g, rfl⟩ : ∃ g, gk = g + 1 := ⟨gk - 1, by omega⟩
      have hB1 := below_src hB HB0 hG
      have CN := Lib.hid (l01Next_i w0 wr b k hS hB1 hk1 (by omega))
      clear hS
      go_wp2_with fail
      refine CN.out.mono ?_
      rintro e W1 ⟨v, rfl, v0, v1, s1, g1⟩
      go_wp2_with fail
      refine (l01Letter_any v _ v0 (by omega)).mono ?_
      rintro e W2 ⟨rfl, b2⟩
      have e1 : (⟨#[letB v]⟩ : ByteArray).size = 1 := rfl
      generalize (⟨#[letB v]⟩ : ByteArray) = t at *
      have hsum : ∀ W, (Op.stringOp .add x t).run Try.prog W = .ok (.string (x ++ t)) W := fun W => run_string_add_sum W x t (by omega)
      have s2 := s1.below b2
      have g2 := grown_trans (grown_trans hG g1) (grown_of_below b2 (some b))
      have hz : (x ++ t).size = j + 1 := by rw [ByteArray.size_append]; omega
      go_wp2_with fail
      go_roundg g
      case measure => omega
      case rel => exact ⟨j + 1, x ++ t, by omega, hz, rfl, by go_num, s2, g2⟩
    · have hN : Hid (j = N) := Lib.hid (by omega)
      go_wp2
      go_ret
      exact ⟨x, rfl, by have := hN.out; omega, hS, hG⟩

set_option maxRecDepth 100000 in
set_option maxHeartbeats 1000000 in
theorem l01Small_any (w0 W : World) (b : Nat) (hS : Src w0 W b) (hB : Below w0.heap.size w0 W) :
    Calls Try.prog 167 #[.pointer (some ⟨b, 0, none⟩)] W (DrawnT 10 w0 W b) := by
  have HB0 := hS.ge
  have CN := Lib.hid (l01Next_i w0 W b 11 hS hB (by omega) (by omega))
  clear hS
  go_enter Try.func167, Try.ntmps167
  go_wp2_with fail
  refine CN.out.mono ?_
  rintro e W1 ⟨v, rfl, v0, v1, s1, g1⟩
  have hB1 := below_src hB HB0 g1
  have hbl := s1.lt
  go_wp2_with fail
  refine (l01Pick_any w0 _ b _ [1, 2, 2, 2, 3, 5] (s1.below (Below.new _ _)) (hB1.alloc hB1.size _) (by simp) (by omega) (by decide) (by decide) (cells_new_ints W1 [1, 2, 2, 2, 3, 5] _)).mono ?_
  rintro e W2 ⟨k, rfl, hk, s2, g2⟩
  have hB2 := below_src (hB1.alloc hB1.size _) HB0 g2
  have hk2 : 1 ≤ k ∧ k ≤ 5 := by simp at hk; omega
  have g3 := grown_trans g1 (grown_trans (grown_of_below (Below.new W1 _) (some b)) g2)
  clear hk
  go_wp2_with fail
  refine (l01DrawOf_any w0 _ b v k s2 hB2 (by omega) v0 hk2.1 hk2.2).mono ?_
  rintro e W3 ⟨x, rfl, hx, s3, g4⟩
  go_wp2_with fail
  go_ret
  exact ⟨x, rfl, by omega, s3, grown_trans g3 g4⟩

end Go.Proofs.Ytinanajagkilaaa
