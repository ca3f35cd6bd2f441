/- Stepped words, words of slopes: the program's and the model's helpers. -/
import Derived.Test.YtddfdciohnabbaaStpPlain
import Derived.Test.YtddfdciohnabbaaWordOf
import Derived.Test.YtddfdciohnabbaaGcd
import Derived.Test.YtddfdciohnabbaaTurn
import Derived.BigQuiet
import Derived.Deep.QuietTactic
import Derived.StillTailTactics
import Derived.IntWalk
namespace Go.Proofs.Ytddfdciohnabbaa
set_option linter.unusedVariables false
set_option linter.unusedSimpArgs false
open Go.RowKit

theorem mul_le_n {i a n b : Nat} (hi : i ≤ n) (ha : a ≤ b) : i * a ≤ n * b := Nat.mul_le_mul hi ha

set_option maxRecDepth 100000 in
set_option maxHeartbeats 1000000 in
theorem steppedWord_any (a b c n : Nat) (w : World) (hab : a ≤ b) (hb : 0 < b) (hb2 : b ≤ 1000) (hc : c ≤ 1000) (hn : n ≤ 62) :
    Calls Try.prog 66 #[.int .i64 (a : Int), .int .i64 (b : Int), .int .i64 (c : Int), .int .i64 (n : Int)] w fun e w' => e = .returned (.string (bt (stW a b c n))) ∧ Below w.heap.size w w' := by
  have hmo : Try.prog.follows .mixedOrders = true := by kernel_rfl
  have hfb : Lib.IsBuilderF 76 5 w.heap.size w.heap.size (Lib.byteCells []) (w.alloc (.cells #[.pointer none, .slice none 0 0] 76)) := Lib.IsBuilderF.of (Lib.fresh_isBuilder 76 5 w)
  have HB := Lib.hid hfb
  clear hfb
  have hbz : ¬ (b : Int) = 0 := by omega
  go_enter Try.func66, Try.ntmps66
  go_wp2
  go_loopw [12] (fun i wr => ∃ k : Nat, k ≤ n ∧ i = .int .i64 k ∧ Lib.IsBuilderF 76 5 w.heap.size w.heap.size (Lib.byteCells (stW a b c k)) wr ∧ Below w.heap.size w wr) (fun i _ => n - (intOf i).toNat)
  case atStart => exact ⟨0, Nat.zero_le _, rfl, HB.out, Below.new _ _⟩
  case round =>
    obtain ⟨k, hk, rfl, hI, hB⟩ := hrel
    by_cases hp : k < n
    · have hpi : (k : Int) < (n : Int) := by omega
      have hm1 := mul_le_n (i := k) (a := a) (n := 62) (b := 1000) (by omega) (by omega)
      have hm2 := mul_le_n (i := k + 1) (a := a) (n := 62) (b := 1000) (by omega) (by omega)
      have e1 : ((k : Int) + 1) * (a : Int) = (((k + 1) * a : Nat) : Int) := by norm_cast
      have e2 : (k : Int) * (a : Int) = ((k * a : Nat) : Int) := by norm_cast
      have e3 : ((((k + 1) * a : Nat) : Int) + (c : Int)) / (b : Int) = (stq a b c (k + 1) : Int) := by rw [← e1]; exact stq_int
      have e4 : (((k * a : Nat) : Int) + (c : Int)) / (b : Int) = (stq a b c k : Int) := by rw [← e2]; exact stq_int
      have l1 : stq a b c (k + 1) ≤ (k + 1) * a + c := stq_top
      have l2 : stq a b c k ≤ k * a + c := stq_top
      have l3 := stq_le a b c k
      have l4 := stq_step (i := k) (c := c) hab hb
      have hrc := runeCells_stl (i := k) (c := c) hab hb
      have hsn := stW_succ a b c k
      have hln := stW_len a b c k
      have hsd : ((stq a b c (k + 1) : Nat) : Int) - ((stq a b c k : Nat) : Int) = (std a b c k : Int) := by unfold std; omega
      have hs1 := std_le (i := k) (c := c) hab hb
      have HRC := Lib.hid hrc
      have HSN := Lib.hid hsn
      have HLN := Lib.hid hln
      have HI := Lib.hid hI
      clear hrc hsn hln hI
      have hz := hB.size
      generalize stq a b c (k + 1) = s1 at *
      generalize stq a b c k = s0 at *
      generalize (k + 1) * a = m1 at *
      generalize k * a = m0 at *
      generalize std a b c k = z at *
      have hzd := hB.drew.size
      have hbn : ¬ b = 0 := by omega
      have e5 : ((m1 : Int) + (c : Int)).tdiv (b : Int) = (s1 : Int) := by rw [Int.tdiv_eq_ediv_of_nonneg (by omega)]; exact e3
      have e6 : ((m0 : Int) + (c : Int)).tdiv (b : Int) = (s0 : Int) := by rw [Int.tdiv_eq_ediv_of_nonneg (by omega)]; exact e4
      have ew1 : IntKind.i64.wrap ((k : Int) + 1) = (k : Int) + 1 := IntWalk.i64_in _ (by omega)
      have ew2 : IntKind.i64.wrap (m1 : Int) = (m1 : Int) := IntWalk.i64_in _ (by omega)
      have ew3 : IntKind.i64.wrap ((m1 : Int) + (c : Int)) = (m1 : Int) + (c : Int) := IntWalk.i64_in _ (by omega)
      have ew4 : IntKind.i64.wrap (m0 : Int) = (m0 : Int) := IntWalk.i64_in _ (by omega)
      have ew5 : IntKind.i64.wrap ((m0 : Int) + (c : Int)) = (m0 : Int) + (c : Int) := IntWalk.i64_in _ (by omega)
      have ew6 : IntKind.i64.wrap (s1 : Int) = (s1 : Int) := IntWalk.i64_in _ (by omega)
      have ew7 : IntKind.i64.wrap (s0 : Int) = (s0 : Int) := IntWalk.i64_in _ (by omega)
      have ew8 : IntKind.i64.wrap (z : Int) = (z : Int) := IntWalk.i64_in _ (by omega)
      go_wp2
      go_still_tail 16, hmo
      change wpList _ _ _ _ _ wr.drew
      go_wp2_with fail
      refine (letterOf_any (z : Int) _ (by omega) (by omega)).mono ?_
      rintro e w2 ⟨rfl, rfl⟩
      go_wp2_with fail
      refine (Try.Builder_WriteRune_k w.heap.size w.heap.size _ (97 + (z : Int)) (by omega) (by omega) wr.drew HI.out (by rw [Lib.byteCells_length, HLN.out]; omega) hz).mono ?_
      rintro e w2 ⟨rfl, hI2, b2, _⟩
      rw [HRC.out, ← Lib.byteCells_append, ← HSN.out] at hI2
      have HI2 := Lib.hid hI2
      clear hI2
      go_wp2_with fail
      go_roundw
      case rel => exact ⟨k + 1, by omega, by go_num, .inr HI2.out, hB.drew.trans b2⟩
      case measure => simp [intOf]; omega
    · obtain rfl : k = n := by omega
      have hz := hB.size
      have HI := Lib.hid hI
      clear hI
      go_wp2_with fail
      refine (Try.Builder_String_any_k w.heap.size w.heap.size (stW a b c k) _ HI.out hz).mono ?_
      rintro e w2 ⟨rfl, _, b2, _⟩
      go_wp2_with fail
      go_ret
      exact ⟨rfl, hB.trans b2⟩

set_option maxRecDepth 100000 in
theorem slopeWord_any (p q : Nat) (w : World) (h1 : 0 < p + q) (h2 : p + q ≤ 62) :
    Calls Try.prog 43 #[.int .i64 (p : Int), .int .i64 (q : Int)] w fun e w' => e = .returned (.string (bt (sloW p q))) ∧ Below w.heap.size w w' := by
  have c1 := fun W => steppedWord_any q (p + q) 0 (p + q) W (by omega) (by omega) (by omega) (by omega) (by omega)
  rw [show ((p + q : Nat) : Int) = (p : Int) + (q : Int) from Int.natCast_add p q, show ((0 : Nat) : Int) = 0 from rfl] at c1
  have C1 := Lib.hid c1
  clear c1
  go_enter Try.func43, Try.ntmps43
  go_wp2_with fail
  refine (C1.out _).mono ?_
  rintro e w1 ⟨rfl, b1⟩
  go_wp2_with fail
  go_ret
  exact ⟨rfl, b1⟩

set_option maxRecDepth 100000 in
set_option maxHeartbeats 1000000 in
theorem l08Word_any (p q : Nat) (w : World) (h1 : 0 < p + q) (h2 : p + q ≤ 62) :
    Calls Try.prog 41 #[.int .i64 (p : Int), .int .i64 (q : Int)] w fun e w' => e = .returned (.string (bt (sloW p q))) ∧ Below w.heap.size w w' := by
  obtain ⟨n, hn⟩ : ∃ n, p + q = n := ⟨_, rfl⟩
  have hni : (p : Int) + (q : Int) = (n : Int) := by omega
  have HN : Hid (sloW p q = stW q n 0 n) := Lib.hid (by unfold sloW; rw [hn])
  have hqn : q ≤ n := by omega
  have hn0 : 0 < n := by omega
  have hn62 : n ≤ 62 := by omega
  have hnz : ¬ (n : Int) = 0 := by omega
  clear hn h1 h2
  go_enter Try.func41, Try.ntmps41
  go_wp2
  go_loopw [5, 7] (fun o i wr => ∃ (k : Nat) (t : ByteArray), k ≤ n ∧ i = .int .i64 k ∧ o = .string t ∧ t.size ≤ k ∧ Hid (t = bt (stW q n 0 k)) ∧ Below w.heap.size w wr) (fun _ i _ => n - (intOf i).toNat)
  case atStart => exact ⟨0, ⟨#[]⟩, Nat.zero_le _, rfl, rfl, Nat.le_refl _, Lib.hid rfl, Below.refl _ _⟩
  case round =>
    obtain ⟨k, t, hk, rfl, rfl, ht, HT, hB⟩ := hrel
    by_cases hp : k < n
    · have hpi : (k : Int) < (n : Int) := by omega
      have hm1 := mul_le_n (i := k) (a := q) (n := 62) (b := 62) (by omega) (by omega)
      have hm2 := mul_le_n (i := k + 1) (a := q) (n := 62) (b := 62) (by omega) (by omega)
      have e1 : ((k : Int) + 1) * (q : Int) = (((k + 1) * q : Nat) : Int) := by norm_cast
      have e2 : (k : Int) * (q : Int) = ((k * q : Nat) : Int) := by norm_cast
      have e3 : (((k + 1) * q : Nat) : Int) / (n : Int) = (stq q n 0 (k + 1) : Int) := by unfold stq; norm_cast
      have e4 : ((k * q : Nat) : Int) / (n : Int) = (stq q n 0 k : Int) := by unfold stq; norm_cast
      have l1 : stq q n 0 (k + 1) ≤ (k + 1) * q + 0 := stq_top
      have l2 : stq q n 0 k ≤ k * q + 0 := stq_top
      have hle := stq_le q n 0 k
      have HSN := Lib.hid (stW_succ q n 0 k)
      have HSD : Hid (std q n 0 k = stq q n 0 (k + 1) - stq q n 0 k) := Lib.hid rfl
      have hts : (t ++ (⟨#[98]⟩ : ByteArray)).size ≤ k + 1 := by rw [ByteArray.size_append]; show t.size + 1 ≤ _; omega
      have hts2 : (t ++ (⟨#[97]⟩ : ByteArray)).size ≤ k + 1 := by rw [ByteArray.size_append]; show t.size + 1 ≤ _; omega
      generalize stq q n 0 (k + 1) = s1 at *
      generalize stq q n 0 k = s0 at *
      generalize (k + 1) * q = m1 at *
      generalize k * q = m0 at *
      by_cases hs : s1 = s0
      · have hl : Hid (stl q n 0 k = 97) := Lib.hid (stl_a (by rw [HSD.out]; omega))
        subst hs
        clear hts
        have HTS := Lib.hid hts2
        clear hts2
        go_wp2
        go_quiet (fail)
        go_wp2
        go_roundw
        case rel => exact ⟨k + 1, t ++ ⟨#[97]⟩, by omega, by go_num, rfl, HTS.out, Lib.hid (by rw [HSN.out, hl.out, HT.out, ← bt_app]; rfl), hB.drewN _⟩
        case measure => simp [intOf]; omega
      · have hl : Hid (stl q n 0 k = 98) := Lib.hid (stl_b (by rw [HSD.out]; omega))
        have hsi : ¬ (s1 : Int) = (s0 : Int) := by omega
        clear hts2
        have HTS := Lib.hid hts
        clear hts hs
        go_wp2
        go_quiet (fail)
        go_wp2
        go_roundw
        case rel => exact ⟨k + 1, t ++ ⟨#[98]⟩, by omega, by go_num, rfl, HTS.out, Lib.hid (by rw [HSN.out, hl.out, HT.out, ← bt_app]; rfl), hB.drewN _⟩
        case measure => simp [intOf]; omega
    · obtain rfl : k = n := by omega
      go_wp2
      go_ret
      exact ⟨by rw [HT.out, HN.out]; rfl, hB⟩

end Go.Proofs.Ytddfdciohnabbaa
