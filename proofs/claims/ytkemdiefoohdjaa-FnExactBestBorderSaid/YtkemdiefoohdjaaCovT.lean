/- Places covered by one of two words: the program. -/
import Derived.Test.YtkemdiefoohdjaaCovI
import Derived.Deep.RegionHeld3
namespace Go.Proofs.Ytkemdiefoohdjaa
set_option linter.unusedVariables false
set_option linter.unusedSimpArgs false
open Go.RowKit

theorem msk_lt64 (x u : ByteArray) (h : x.size ≤ 60) : msk x u < 18446744073709551616 := by
  have h1 := msk_lt x u
  have h2 : 2 ^ x.size ≤ 2 ^ 60 := Nat.pow_le_pow_right (by omega) h
  omega
theorem two_lt (x u v : ByteArray) : msk x u ||| msk x v < 2 ^ x.size := Nat.or_lt_two_pow (msk_lt x u) (msk_lt x v)

theorem pair_past {w W w1 : World} {a b : Value} (b1 : Below W.heap.size W w1) (h : W.cell? ⟨w.heap.size, 0, none⟩ = some a ∧ W.cell? ⟨w.heap.size, 1, none⟩ = some b ∧ Below w.heap.size w W) :
    w1.cell? ⟨w.heap.size, 0, none⟩ = some a ∧ w1.cell? ⟨w.heap.size, 1, none⟩ = some b ∧ Below w.heap.size w w1 := by
  have hl : w.heap.size < W.heap.size := by
    have h1 := h.1
    by_cases e : w.heap.size < W.heap.size
    · exact e
    · dsimp only [World.cell?] at h1
      rw [Array.getElem?_eq_none (by omega)] at h1
      cases h1
  exact ⟨by rw [(bcell b1).1 _ _ hl]; exact h.1, by rw [(bcell b1).1 _ _ hl]; exact h.2.1, h.2.2.then b1⟩

set_option maxRecDepth 100000 in
set_option maxHeartbeats 4000000 in
theorem pair_covered (x u v : ByteArray) (w : World) (hx : x.size ≤ 60) (hu : u.size ≤ 60) (hv : v.size ≤ 60) :
    Calls Try.prog 146 #[.agg #[.iface 50 (.string u), .iface 50 (.string v)], .string x] w fun e w' => e = .returned (.int .u64 ((msk x u ||| msk x v : Nat) : Int)) ∧ Below w.heap.size w w' := by
  have hor := bits_or_u64_nat _ _ (msk_lt64 x u hx) (msk_lt64 x v hx)
  have q0 : (w.alloc (.cells #[.iface 50 (.string u), .iface 50 (.string v)] 86)).cell? ⟨w.heap.size, 0, none⟩ = some (.iface 50 (.string u)) := by simp [go_sem]
  have q1 : (w.alloc (.cells #[.iface 50 (.string u), .iface 50 (.string v)] 86)).cell? ⟨w.heap.size, 1, none⟩ = some (.iface 50 (.string v)) := by simp [go_sem]
  have B0 : Below w.heap.size w (w.alloc (.cells #[.iface 50 (.string u), .iface 50 (.string v)] 86)) := Below.new _ _
  have hc := fun y W h => callsIn_wide.1 (inner_covered_in x y W hx h)
  have HC := Lib.hid hc
  clear hc
  go_enter Try.func146, Try.ntmps146
  go_upto_region 1 with fail
  go_region_held3 (fun w' => w'.cell? ⟨w.heap.size, 0, none⟩ = some (.iface 50 (.string u)) ∧ w'.cell? ⟨w.heap.size, 1, none⟩ = some (.iface 50 (.string v)) ∧ Below w.heap.size w w') (first | assumption | exact ⟨q0, q1, B0⟩ | exact ⟨q0, q1, B0.drew⟩ | (refine ⟨?_, ?_, ?_⟩ <;> first | assumption | exact Below.drew (by assumption) | go_keep)) (first | (go_at_call 75; refine (HC.out _ _ (by assumption)).mono ?_; rintro e w1 ⟨rfl, b1⟩; have kp := pair_past b1 (by first | assumption | exact ⟨by assumption, by assumption, by assumption⟩ | exact ⟨q0, q1, B0⟩ | exact ⟨q0, q1, B0.drew⟩)))
  all_goals (try go_wp2_with fail)
  all_goals go_ret
  all_goals exact ⟨rfl, by first | assumption | exact (by assumption : _ ∧ _ ∧ _).2.2⟩

theorem two_beq (x u v : ByteArray) : (((msk x u ||| msk x v : Nat) : Int) == ((mskF 0 x.size : Nat) : Int)) = cvTwo x u v := full_beq (two_lt x u v) (msk_two x u v)
set_option maxHeartbeats 1000000 in
theorem coversAll_pair (x u v : ByteArray) (w : World) (hx : x.size ≤ 60) (hu : u.size ≤ 60) (hv : v.size ≤ 60) :
    Calls Try.prog 48 #[.iface 86 (.agg #[.iface 50 (.string u), .iface 50 (.string v)]), .string x] w fun e w' => e = .returned (.bool (cvTwo x u v)) ∧ Below w.heap.size w w' := by
  have hb := two_beq x u v
  go_enter Try.func48, Try.ntmps48
  go_wp2_with (first | (go_at_call 146; refine (pair_covered x u v _ hx hu hv).mono ?_; rintro e w1 ⟨rfl, b1⟩) | (go_at_call 84; refine (placesFrom_any 0 x.size _ (by omega)).mono ?_; rintro e w2 ⟨rfl, rfl⟩))
  go_ret
  exact ⟨rfl, b1⟩

theorem areWords3_yes (b : Nat) (x y z : ByteArray) (w : World) (hb : b < w.heap.size) (c0 : w.cell? ⟨b, 0, none⟩ = some (.string x)) (c1 : w.cell? ⟨b, 1, none⟩ = some (.string y)) (c2 : w.cell? ⟨b, 2, none⟩ = some (.string z)) (hx : IsW x) (hy : IsW y) (hz : IsW z) :
    Calls Try.prog 47 #[.slice (some ⟨b, 0, none⟩) 3 3] w fun e w' => e = .returned (.bool true) ∧ Below w.heap.size w w' :=
  areWords_yes b [x, y, z] w hb (by simp) (fun j h => by match j, h with | 0, _ => exact c0 | 1, _ => exact c1 | 2, _ => exact c2) (fun j h => by match j, h with | 0, _ => exact hx | 1, _ => exact hy | 2, _ => exact hz)
theorem areWords3_no (b : Nat) (x y z : ByteArray) (w : World) (hb : b < w.heap.size) (c0 : w.cell? ⟨b, 0, none⟩ = some (.string x)) (c1 : w.cell? ⟨b, 1, none⟩ = some (.string y)) (c2 : w.cell? ⟨b, 2, none⟩ = some (.string z)) (sx : x.size ≤ maxLen) (sy : y.size ≤ maxLen) (sz : z.size ≤ maxLen) (h : ¬ (IsW x ∧ IsW y ∧ IsW z)) :
    Calls Try.prog 47 #[.slice (some ⟨b, 0, none⟩) 3 3] w fun e w' => e = .returned (.bool false) ∧ Below w.heap.size w w' :=
  areWords_no b [x, y, z] w hb (by simp) (fun j h => by match j, h with | 0, _ => exact c0 | 1, _ => exact c1 | 2, _ => exact c2) (fun j h => by match j, h with | 0, _ => exact sx | 1, _ => exact sy | 2, _ => exact sz)
    (fun h1 => h ⟨h1 0 (by simp), h1 1 (by simp), h1 2 (by simp)⟩)

set_option maxRecDepth 100000 in
set_option maxHeartbeats 2000000 in
theorem coveredByTwo1_any (b1 b2 b3 : Nat) (x u v : ByteArray) (w : World) (c1 : Boxed w b1 9 (.string x)) (c2 : Boxed w b2 9 (.string u)) (c3 : Boxed w b3 9 (.string v)) (sx : x.size ≤ maxLen) (su : u.size ≤ maxLen) (sv : v.size ≤ maxLen) :
    Calls Try.prog 79 #[.pointer (some ⟨b1, 0, none⟩), .pointer (some ⟨b2, 0, none⟩), .pointer (some ⟨b3, 0, none⟩)] w fun e w' => EndB (coveredByTwoR x u v) e ∧ Below w.heap.size w w' := by
  have k1 := c1.cell
  have k2 := c2.cell
  have k3 := c3.cell
  have l1 := c1.lt
  have l2 := c2.lt
  have l3 := c3.lt
  have c1' : Boxed (w.alloc (.cells #[.string x, .string u, .string v] 9)) b1 9 (.string x) := c1.alloc _
  have c2' : Boxed (w.alloc (.cells #[.string x, .string u, .string v] 9)) b2 9 (.string u) := c2.alloc _
  have c3' : Boxed (w.alloc (.cells #[.string x, .string u, .string v] 9)) b3 9 (.string v) := c3.alloc _
  have l1' := c1'.lt
  have l2' := c2'.lt
  have l3' := c3'.lt
  by_cases h : IsW x ∧ IsW u ∧ IsW v
  · have H := Lib.hid h
    by_cases h0 : u.size = 0 ∨ v.size = 0
    · rw [coveredByTwoR_empty h h0]
      clear h
      have hq : u.toList.isEmpty = true ∨ (u.toList.isEmpty = false ∧ v.toList.isEmpty = true) := by
        by_cases hu : u.size = 0
        · exact .inl (nil_yesC hu)
        · exact .inr ⟨nil_noC hu, nil_yesC (h0.resolve_left hu)⟩
      clear h0
      rcases hq with hq | ⟨hq, hq2⟩
      all_goals
        go_enter Try.func79, Try.ntmps79
        go_wp2_with (first | (go_at_call 47; refine (areWords3_yes _ x u v _ (by simp) (by simp [go_sem]) (by simp [go_sem]) (by simp [go_sem]) H.out.1 H.out.2.1 H.out.2.2).mono ?_; rintro e w1 ⟨rfl, a1⟩; have k4 := (boxed_past c2' a1 l2').cell; have k5 := (boxed_past c3' a1 l3').cell) | (go_at_call 46; first | (with_reducible refine (refuse_yes _ _).mono ?_; rintro e w2 ⟨rfl, rfl⟩) | (with_reducible refine (refuse_no _ _).mono ?_; rintro e w2 ⟨rfl, rfl⟩)))
        exact ⟨rfl, .inr ⟨rfl, rfl⟩, (Below.new _ _).then a1⟩
    · rw [coveredByTwoR_ok h h0]
      have hq := nil_noC (fun e => h0 (.inl e))
      have hq2 := nil_noC (fun e => h0 (.inr e))
      have zx := h.1.size
      have zu := h.2.1.size
      have zv := h.2.2.size
      clear h h0
      go_enter Try.func79, Try.ntmps79
      go_wp2_with (first | (go_at_call 47; refine (areWords3_yes _ x u v _ (by simp) (by simp [go_sem]) (by simp [go_sem]) (by simp [go_sem]) H.out.1 H.out.2.1 H.out.2.2).mono ?_; rintro e w1 ⟨rfl, a1⟩; have k4 := (boxed_past c2' a1 l2').cell; have k5 := (boxed_past c3' a1 l3').cell; have k6 := (boxed_past c1' a1 l1').cell) | (go_at_call 46; first | (with_reducible refine (refuse_yes _ _).mono ?_; rintro e w2 ⟨rfl, rfl⟩) | (with_reducible refine (refuse_no _ _).mono ?_; rintro e w2 ⟨rfl, rfl⟩)) | (go_at_call 48; refine (coversAll_pair x u v _ zx zu zv).mono ?_; rintro e w3 ⟨rfl, a3⟩))
      go_ret
      exact ⟨.inl ⟨rfl, rfl⟩, ((Below.new _ _).then a1).then a3⟩
  · rw [coveredByTwoR_bad h]
    have H := Lib.hid h
    clear h
    go_enter Try.func79, Try.ntmps79
    go_wp2_with (first | (go_at_call 47; refine (areWords3_no _ x u v _ (by simp) (by simp [go_sem]) (by simp [go_sem]) (by simp [go_sem]) sx su sv H.out).mono ?_; rintro e w1 ⟨rfl, a1⟩) | (go_at_call 46; refine (refuse_no _ _).mono ?_; rintro e w2 ⟨rfl, rfl⟩))
    exact ⟨rfl, .inr ⟨rfl, rfl⟩, (Below.new _ _).then a1⟩

set_option maxRecDepth 100000 in
set_option maxHeartbeats 1000000 in
theorem impl_CoveredByTwo (x u v : ByteArray) (w : World) (sx : x.size ≤ maxLen) (su : u.size ≤ maxLen) (sv : v.size ≤ maxLen) :
    Calls Try.prog 39 #[.string x, .string u, .string v] w fun e w' => e = .returned (.tuple #[.bool (coveredByTwoR x u v).1, .int .i64 (coveredByTwoR x u v).2]) ∧ Below w.heap.size w w' := by
  have hmf : ∀ (fn : Fn) (first cap : Array Value) (w : World), (Instr.makeFunc fn first cap).run Try.prog w = .ok (.func fn first cap) w := fun _ _ _ _ => rfl
  have c1 : Boxed ((((w.alloc (.cells #[.string x] 9)).alloc (.cells #[.string u] 9)).alloc (.cells #[.string v] 9)).alloc (.cells #[.int .i64 0] 2)) w.heap.size 9 (.string x) := (((Boxed.new w _ _).alloc _).alloc _).alloc _
  have c2 : Boxed ((((w.alloc (.cells #[.string x] 9)).alloc (.cells #[.string u] 9)).alloc (.cells #[.string v] 9)).alloc (.cells #[.int .i64 0] 2)) (w.heap.size + 1) 9 (.string u) := by
    have := Boxed.new (w.alloc (.cells #[.string x] 9)) 9 (.string u)
    rw [World.size_alloc] at this
    exact (this.alloc _).alloc _
  have c3 : Boxed ((((w.alloc (.cells #[.string x] 9)).alloc (.cells #[.string u] 9)).alloc (.cells #[.string v] 9)).alloc (.cells #[.int .i64 0] 2)) (w.heap.size + 1 + 1) 9 (.string v) := by
    have := Boxed.new ((w.alloc (.cells #[.string x] 9)).alloc (.cells #[.string u] 9)) 9 (.string v)
    simp only [World.size_alloc] at this
    exact this.alloc _
  have hB : Below w.heap.size w (((w.alloc (.cells #[.string x] 9)).alloc (.cells #[.string u] 9)).alloc (.cells #[.string v] 9)) := ((Below.new _ _).alloc (by simp) _).alloc (by simp; omega) _
  go_enter Try.func39, Try.ntmps39
  go_wp2_with (go_at_call 44; refine (door_test 79 _ _ (coveredByTwoR x u v) (enters_of Try.func79 (by kernel_rfl) rfl) (coveredByTwo1_any _ _ _ x u v _ c1 c2 c3 sx su sv)).mono ?_; rintro e w1 ⟨rfl, b1⟩)
  go_ret2
  exact ⟨rfl, hB.trans (b1.mono (by simp; omega))⟩

end Go.Proofs.Ytkemdiefoohdjaa
