/- UncoveredPlaces: the program. -/
import Derived.Test.YtkemdiefoohdjaaDoorCovI
import Derived.Test.YtkemdiefoohdjaaDoorUncPlain
import Derived.Shelf.Spec.TrailingZeros
import Derived.Deep.RegionHeld3
namespace Go.Proofs.YtkemdiefoohdjaaDoor
set_option linter.unusedVariables false
set_option linter.unusedSimpArgs false
open Go.RowKit

/-- The library's table in its variable. -/
def TabZ (W : World) : Prop := ∀ j, j < 64 → W.cell? ⟨0, j, none⟩ = some (.int .u8 (Lib.deBruijn64tab.getD j 0))
theorem TabZ.later {W W' : World} {B : Nat} (h : TabZ W) (b : Below B W W') (hB : 0 < B) : TabZ W' := fun j hj => by rw [b.cell hB]; exact h j hj

set_option maxHeartbeats 1000000 in
theorem tz64_core (x k idx : Nat) (w : World) (hx0 : ((x : Int) == 0) = false)
    (key : IntKind.u64.wrap (bits BinOp.and IntKind.u64 (x : Int) (IntKind.u64.wrap (-(x : Int))) * 285870213051353865) / 288230376151711744 = (idx : Int))
    (hi : idx < 64) (hk : k < 64) (hcell : w.cell? ⟨0, idx, none⟩ = some (.int .u8 k)) :
    Calls Tryd.prog 23 #[.int .u64 x] w fun e w' => e = .returned (.int .i64 k) ∧ w' = w := by
  go_enter Tryd.func23, Tryd.ntmps23
  go_wp2_with (simp only [key])
  go_ret
  exact ⟨rfl, rfl⟩
theorem tz64_any (x : Nat) (w : World) (hx : x < 18446744073709551616) (hx0 : 0 < x) (hT : TabZ w) :
    Calls Tryd.prog 23 #[.int .u64 x] w fun e w' => e = .returned (.int .i64 (Lib.ctz 64 x)) ∧ w' = w := by
  obtain ⟨hlow, hk⟩ := Lib.lowest_bit 64 x (by omega) hx
  obtain ⟨hi, htab⟩ := Lib.deBruijn64_at _ hk
  have hcell := hT _ hi
  rw [htab] at hcell
  exact tz64_core x _ _ w (by simp; omega) (tz64_key x _ hx (by omega) hlow) hi hk hcell
theorem bits_andNot_u64 (a b : Nat) (ha : a < 18446744073709551616) (hb : b < 18446744073709551616) :
    ∃ s : Nat, bits .andNot .u64 (a : Int) (b : Int) = (s : Int) ∧ s < 18446744073709551616 ∧ ∀ j, s.testBit j = (a.testBit j && !b.testBit j) := by
  have h1 : (BitVec.ofInt 64 (a : Int)).toNat = a := by
    rw [BitVec.ofInt_natCast, BitVec.toNat_ofNat]; exact Nat.mod_eq_of_lt (by omega)
  have h2 : (BitVec.ofInt 64 (b : Int)).toNat = b := by
    rw [BitVec.ofInt_natCast, BitVec.toNat_ofNat]; exact Nat.mod_eq_of_lt (by omega)
  refine ⟨(BitVec.ofInt 64 (a : Int) &&& ~~~ BitVec.ofInt 64 (b : Int)).toNat, ?_, by have := (BitVec.ofInt 64 (a : Int) &&& ~~~ BitVec.ofInt 64 (b : Int)).isLt; omega, fun j => ?_⟩
  · show IntKind.u64.wrap ((BitVec.ofInt 64 (a : Int) &&& ~~~ BitVec.ofInt 64 (b : Int)).toNat : Int) = _
    have := (BitVec.ofInt 64 (a : Int) &&& ~~~ BitVec.ofInt 64 (b : Int)).isLt
    rw [IntKind.wrap_u64]
    omega
  · rw [BitVec.testBit_toNat, BitVec.getLsbD_and, BitVec.getLsbD_not, ← BitVec.testBit_toNat, ← BitVec.testBit_toNat, h1, h2]
    by_cases hj : j < 64
    · simp [hj]
    · have : a.testBit j = false := Nat.testBit_lt_two_pow (Nat.lt_of_lt_of_le ha (by have := Nat.pow_le_pow_right (n := 2) (by omega) (show 64 ≤ j by omega); omega))
      simp [this]

set_option maxRecDepth 100000 in
set_option maxHeartbeats 2000000 in
theorem list_any (s n : Nat) (w : World) (hs : s < 2 ^ n) (hn : n ≤ 60) (hT : TabZ w) (hw0 : 0 < w.heap.size) :
    Calls Tryd.prog 17 #[.int .u64 (s : Int)] w fun e w' => ∃ v, e = .returned v ∧ OwnI w' w.heap.size v (lowL s n) ∧ Below w.heap.size w w' := by
  obtain ⟨i0, hi, hz0, hz1, hz2⟩ := info_parts infoI64
  have hs64 : s < 18446744073709551616 := by
    have h2 : 2 ^ n ≤ 2 ^ 60 := Nat.pow_le_pow_right (by omega) hn
    omega
  have HT := Lib.hid hT
  clear hT
  go_enter Tryd.func17, Tryd.ntmps17
  go_wp2
  go_loopw [3, 4] (fun s3 s4 wr => ∃ c R : Nat, c ≤ 64 ∧ s4 = .int .u64 (R : Int) ∧ Rest s c R ∧ OwnI wr w.heap.size s3 (lowL s c) ∧ Below w.heap.size w wr)
    (fun _ s4 _ => (intOf s4).toNat)
  case atStart => exact ⟨0, s, by omega, rfl, rest_start s, OwnI.nil _ _, Below.refl _ _⟩
  case round =>
    obtain ⟨c, R, hc, rfl, hR, hown, hB⟩ := hrel
    have hR64 := rest_lt hR hs64
    have hbz := hB.size
    by_cases h0 : 0 < R
    · obtain ⟨z1, z2, z3, z4⟩ := rest_step hR h0 hR64
      have hk64 := (low_form h0 hR64).choose_spec.2
      have hl := lowL_len s c
      have hTr := HT.out.later hB hw0
      have htz := fun W (hh : TabZ W) => tz64_any R W hR64 h0 hh
      have hand := bits_and_u64_nat R (R - 1) hR64 (by omega)
      have e1 : (R : Int) - 1 = ((R - 1 : Nat) : Int) := by omega
      have hlt : R &&& (R - 1) < R := by
        have := Nat.and_le_right (n := R) (m := R - 1)
        omega
      have hne : ((R : Int) == 0) = false := by simp; omega
      have hR0 : ¬ (R : Int) = 0 := by omega
      have Z3 := Lib.hid z3
      have Z4 := Lib.hid z4
      have HTr := Lib.hid hTr
      have HTZ := Lib.hid htz
      clear z2 z3 z4 hTr htz hR
      generalize lowL s c = L at *
      generalize hkk : Lib.ctz 64 R = k at *
      generalize hRR : R &&& (R - 1) = R2 at *
      clear hkk hRR
      go_wp2_with (first | (go_at_call 23; refine (HTZ.out _ HTr.out).mono ?_; rintro e w5 ⟨rfl, rfl⟩) | (at_builtin; refine wpList_append_own _ rfl _ _ 22 rfl w.heap.size 2 i0 (.int .i64 0) 1 8 Tryd.underlying22 hi hz0 hz1 hz2 rfl (by decide) _ _ _ rfl (World.ownsRow.alloc hown _) ⟨_, 0, none⟩ 1 1 [.int .i64 (k : Int)] rfl rfl (cell_new _ _ _) (by intro u hu; simp at hu; subst hu; rfl) (by unfold maxLen; omega) (by omega) (by simp; omega) ?_; intro v' w3 hown' hgrow _))
      refine ⟨⟨k + 1, R2, by omega, rfl, Z4.out, ?_, ?_⟩, by simp [intOf]; omega⟩
      · rw [Z3.out]
        unfold OwnI
        rw [List.length_append, List.map_append]
        exact hown'
      · exact (hB.alloc (by omega) _).grown hgrow (by simp; omega) (fun q hq => (hown.lt q hq).1)
    · obtain rfl : R = 0 := by omega
      have he := rest_end hR hs
      rw [he] at hown
      go_wp2_with fail
      go_ret
      exact ⟨_, rfl, hown, hB⟩

theorem unc_past {w W w1 : World} {p q : Addr} {a b : Value} (b1 : Below W.heap.size W w1) (h : W.cell? p = some a ∧ W.cell? q = some b ∧ Below w.heap.size w W) (hp : p.block < w.heap.size) (hq : q.block < w.heap.size) :
    w1.cell? p = some a ∧ w1.cell? q = some b ∧ Below w.heap.size w w1 := by
  have hs := h.2.2.size
  exact ⟨by rw [b1.cell (by omega)]; exact h.1, by rw [b1.cell (by omega)]; exact h.2.1, h.2.2.then b1⟩

set_option maxRecDepth 100000 in
set_option maxHeartbeats 4000000 in
theorem uncovered1_any (b1 b2 : Nat) (x u : ByteArray) (w : World) (c1 : Boxed w b1 9 (.string x)) (c2 : Boxed w b2 9 (.string u)) (sx : x.size ≤ maxLen) (su : u.size ≤ maxLen) (hT : TabZ w) (hw0 : 0 < w.heap.size) :
    Calls Tryd.prog 12 #[.pointer (some ⟨b1, 0, none⟩), .pointer (some ⟨b2, 0, none⟩)] w fun e w' => EndI (uncoveredR x u) w.heap.size e w' ∧ Below w.heap.size w w' := by
  have hmo : Tryd.prog.follows .mixedOrders = true := by kernel_rfl
  have k1 := c1.cell
  have k2 := c2.cell
  have c1' : Boxed (w.alloc (.cells #[.string x, .string u] 9)) b1 9 (.string x) := c1.alloc _
  have c2' : Boxed (w.alloc (.cells #[.string x, .string u] 9)) b2 9 (.string u) := c2.alloc _
  have l1' := c1'.lt
  have l2' := c2'.lt
  have hT1 : TabZ (w.alloc (.cells #[.string x, .string u] 9)) := hT.later (Below.new _ _) hw0
  have HT := Lib.hid hT1
  clear hT hT1
  by_cases h : IsW x ∧ IsW u
  · have H := Lib.hid h
    by_cases hu0 : u.size = 0
    · rw [uncoveredR_empty h hu0]
      have hq := nil_yesC hu0
      clear h
      go_enter Tryd.func12, Tryd.ntmps12
      go_wp2_with (first | (go_at_call 14; refine (areWords2_yes _ x u _ (by simp) (by simp [go_sem]) (by simp [go_sem]) H.out.1 H.out.2).mono ?_; rintro e w1 ⟨rfl, a1⟩; have k3 := (boxed_past c2' a1 l2').cell) | (go_at_call 13; first | (with_reducible refine (refuse_yes _ _).mono ?_; rintro e w2 ⟨rfl, rfl⟩) | (with_reducible refine (refuse_no _ _).mono ?_; rintro e w2 ⟨rfl, rfl⟩)))
      exact ⟨rfl, .inr ⟨rfl, rfl⟩, (Below.new _ _).then a1⟩
    · rw [uncoveredR_ok h hu0]
      have hq := nil_noC hu0
      have zx := h.1.size
      have zu := h.2.size
      have hic := fun W => callsIn_wide.1 (inner_covered_in x u W zx zu)
      have HIC := Lib.hid hic
      have hmf : mskF 0 x.size < 18446744073709551616 := by have := mskF_lt (i := 0) (m := x.size) (n := 60) (by omega); omega
      have hmk : msk x u < 18446744073709551616 := by
        have h1 := msk_lt x u
        have h2 : 2 ^ x.size ≤ 2 ^ 60 := Nat.pow_le_pow_right (by omega) zx
        omega
      obtain ⟨s, hs1, hs2, hs3⟩ := bits_andNot_u64 _ _ hmf hmk
      have hsb : ∀ j, s.testBit j = (decide (j < x.size) && !cvB x u j) := fun j => by
        rw [hs3 j, mskF_bit, msk_bit]
        simp
      have hsl : s < 2 ^ x.size := by
        apply Nat.lt_pow_two_of_testBit
        intro j hj
        rw [hsb j]
        have : ¬ j < x.size := by omega
        simp [this]
      have hLL := Lib.hid (lowL_unc hsb)
      have pf1 : ∀ W, Calls Tryd.prog 15 #[.int .i64 0, .int .i64 (x.size : Int)] W fun e w' => e = .returned (.int .u64 ((mskF 0 x.size : Nat) : Int)) ∧ w' = W := fun W => placesFrom_any 0 x.size W (by omega)
      have PF := Lib.hid pf1
      clear h hsb hs3 hic pf1
      go_enter Tryd.func12, Tryd.ntmps12
      go_wp2_with (first | (go_at_call 14; refine (areWords2_yes _ x u _ (by simp) (by simp [go_sem]) (by simp [go_sem]) H.out.1 H.out.2).mono ?_; rintro e w2 ⟨rfl, a1⟩; have c3 := boxed_past c2' a1 l2'; have k3 := c3.cell; have c4 := boxed_past c1' a1 l1'; have k4 := c4.cell) | (go_at_call 13; with_reducible refine (refuse_yes _ _).mono ?_; rintro e w1 ⟨rfl, rfl⟩))
      have B1 : Below w.heap.size w w1 := (Below.new _ _).then a1
      have hT2 := HT.out.later a1 (by simp)
      have l3 := c3.lt
      have l4 := c4.lt
      go_region_held3 (fun w' => w'.cell? ⟨b1, 0, none⟩ = some (.string x) ∧ w'.cell? ⟨b2, 0, none⟩ = some (.string u) ∧ Below w1.heap.size w1 w') (first | assumption | exact ⟨k4, k3, Below.refl _ _⟩ | exact ⟨k4, k3, (Below.refl _ _).drew⟩ | (refine ⟨?_, ?_, ?_⟩ <;> first | assumption | exact Below.drew (by assumption) | go_keep)) (first | (go_at_call 16; refine (HIC.out _).mono ?_; rintro e w5 ⟨rfl, b5⟩; have kp := unc_past b5 (by first | assumption | exact ⟨by assumption, by assumption, by assumption⟩ | exact ⟨k4, k3, Below.refl _ _⟩ | exact ⟨k4, k3, (Below.refl _ _).drew⟩) l4 l3) | (go_at_call 15; refine (PF.out _).mono ?_; rintro e w6 ⟨rfl, rfl⟩))
      all_goals (try go_wp2_with fail)
      all_goals (
        obtain ⟨z0, z1, z2⟩ := (by assumption : (_ ∧ _ ∧ Below w1.heap.size w1 _))
        have y1 : 0 < w1.heap.size := by have := B1.size; omega
        refine (list_any s x.size _ hsl zx (hT2.later z2 y1) (by have := z2.size; omega)).mono ?_
        rintro e w9 ⟨v9, rfl, o9, b9⟩
        go_wp2_with fail
        go_ret
        refine ⟨.inl ⟨_, rfl, ?_, rfl⟩, (B1.then z2).then b9⟩
        rw [← hLL.out]
        exact o9.base (B1.then z2).size)
  · rw [uncoveredR_bad h]
    have H := Lib.hid h
    clear h
    go_enter Tryd.func12, Tryd.ntmps12
    go_wp2_with (first | (go_at_call 14; refine (areWords2_no _ x u _ (by simp) (by simp [go_sem]) (by simp [go_sem]) sx su H.out).mono ?_; rintro e w1 ⟨rfl, a1⟩) | (go_at_call 13; refine (refuse_no _ _).mono ?_; rintro e w2 ⟨rfl, rfl⟩))
    exact ⟨rfl, .inr ⟨rfl, rfl⟩, (Below.new _ _).then a1⟩

set_option maxRecDepth 100000 in
set_option maxHeartbeats 1000000 in
theorem impl_UncoveredPlaces (x u : ByteArray) (w : World) (sx : x.size ≤ maxLen) (su : u.size ≤ maxLen) (hT : TabZ w) (hw0 : 0 < w.heap.size) :
    Calls Tryd.prog 5 #[.string x, .string u] w (RetI (uncoveredR x u).1 (uncoveredR x u).2 w) := by
  have hmf : ∀ (fn : Fn) (first cap : Array Value) (w : World), (Instr.makeFunc fn first cap).run Tryd.prog w = .ok (.func fn first cap) w := fun _ _ _ _ => rfl
  have c1 : Boxed (((w.alloc (.cells #[.string x] 9)).alloc (.cells #[.string u] 9)).alloc (.cells #[.int .i64 0] 2)) w.heap.size 9 (.string x) := ((Boxed.new w _ _).alloc _).alloc _
  have c2 : Boxed (((w.alloc (.cells #[.string x] 9)).alloc (.cells #[.string u] 9)).alloc (.cells #[.int .i64 0] 2)) (w.heap.size + 1) 9 (.string u) := by
    have := Boxed.new (w.alloc (.cells #[.string x] 9)) 9 (.string u)
    rw [World.size_alloc] at this
    exact this.alloc _
  have hB : Below w.heap.size w ((w.alloc (.cells #[.string x] 9)).alloc (.cells #[.string u] 9)) := (Below.new _ _).alloc (by simp) _
  have hT2 : TabZ (((w.alloc (.cells #[.string x] 9)).alloc (.cells #[.string u] 9)).alloc (.cells #[.int .i64 0] 2)) := hT.later (hB.alloc (by simp; omega) _) hw0
  have HT2 := Lib.hid hT2
  clear hT hT2
  go_enter Tryd.func5, Tryd.ntmps5
  go_wp2_with (go_at_call 11; refine (door_ints 12 _ _ (uncoveredR x u) (enters_of Tryd.func12 (by kernel_rfl) rfl) (uncovered1_any _ _ x u _ c1 c2 sx su HT2.out (by simp))).mono ?_; rintro e w1 ⟨v, rfl, o1, b1⟩)
  go_ret2
  exact ⟨_, rfl, o1.base (by simp; omega), hB.trans (b1.mono (by simp; omega))⟩

end Go.Proofs.YtkemdiefoohdjaaDoor
