/- Test lengths: the model. -/
import Derived.Test.YtolboinemechpabMorC
import Derived.Test.YtolboinemechpabTestPlain
namespace Go.Proofs.Ytolboinemechpab
set_option linter.unusedVariables false
set_option linter.unusedSimpArgs false
open Go.RowKit

set_option maxRecDepth 100000 in
set_option maxHeartbeats 1000000 in
theorem l06Test_any (B : Nat) (v : Value) (I : List (List UInt8)) (w : World) (h : OwnS w B v (I.map bt)) (g : Mor I) :
    Calls Try.prog 100 #[.agg #[v]] w fun e w' => e = .returned (.int .i64 ((tlN (mnL I (I.length - 1)) (mxL I (I.length - 1)) : Nat) : Int)) ∧ Below w.heap.size w w' := by
  have h1 := g.len1
  have h5 := g.len5
  obtain ⟨p, cap, rfl, hg, hc, cell⟩ := h.rowM (by omega)
  have BN : Below w.heap.size w (w.alloc (.cells #[.slice (some ⟨p, 0, none⟩) I.length cap] 53)) := Below.new _ _
  have QN : Boxed (w.alloc (.cells #[.slice (some ⟨p, 0, none⟩) I.length cap] 53)) w.heap.size 53 (.slice (some ⟨p, 0, none⟩) I.length cap) := Boxed.new _ _ _
  have HBN := Lib.hid BN
  have HQN := Lib.hid QN
  have H := Lib.hid (h.below BN)
  have C := Lib.hid cell
  have G := Lib.hid g
  clear g h cell BN QN
  obtain ⟨tl, htl⟩ : ∃ tl, tlN (mnL I (I.length - 1)) (mxL I (I.length - 1)) = tl := ⟨_, rfl⟩
  rw [htl]
  have HTL := Lib.hid htl
  clear htl
  have k0' : w.cell? ⟨p, 0, none⟩ = some (.string (bt (I[0]'(by omega)))) := C.out 0 (by omega)
  have z0' : (bt (I[0]'(by omega))).size ≤ 12 := (G.out.im 0 (by omega)).1
  have hz0' : (bt (I[0]'(by omega))).size = il I 0 := (il_get (by omega)).symm
  generalize bt (I[0]'(by omega)) = y at *
  obtain ⟨W1, hW1⟩ : ∃ W1 : World, W1 = w.alloc (.cells #[.slice (some ⟨p, 0, none⟩) I.length cap] 53) := ⟨_, rfl⟩
  have B1 := HBN.out
  have q1 := HQN.out
  rw [← hW1] at B1 q1
  have k0 : W1.cell? ⟨p, 0, none⟩ = some (.string y) := by rw [(bcell B1).1 p 0 hg]; exact k0'
  have kq := q1.cell
  have HW1 := Lib.hid hW1
  have Q1 := Lib.hid q1
  have HZ0 := Lib.hid hz0'
  have h0c : 0 < cap := by omega
  clear q1 hW1 HBN HQN H k0' hz0'
  go_enter Try.func100, Try.ntmps100
  go_wp2_with fail
  rw [← HW1.out]
  go_quiet (fail)
  go_wp2_with fail
  clear k0 kq
  go_loopw [3, 4, 5] (fun sa sb s wr => ∃ i : Nat, 1 ≤ i ∧ i ≤ I.length ∧ s = .int .i64 (i : Int) ∧ sa = .int .i64 (mnL I (i - 1) : Int) ∧ sb = .int .i64 (mxL I (i - 1) : Int) ∧ Below W1.heap.size W1 wr) (fun _ _ s _ => I.length - (intOf s).toNat)
  case atStart => exact ⟨1, Nat.le_refl _, h1, rfl, by show Value.int .i64 (y.size : Int) = .int .i64 ((il I 0 : Nat) : Int); rw [← HZ0.out], by show Value.int .i64 (y.size : Int) = .int .i64 ((il I 0 : Nat) : Int); rw [← HZ0.out], (Below.refl _ _).drewN _⟩
  case round =>
    obtain ⟨i, hi1, hi, rfl, rfl, rfl, hB⟩ := hrel
    have kr := (boxed_later Q1.out hB).cell
    have BW := B1.then hB
    have ha12 := mnL_le G.out (i - 1)
    have hb12 := mxL_le G.out (i - 1)
    by_cases hp : i < I.length
    · have kc : wr.cell? ⟨p, i, none⟩ = some (.string (bt (I[i]'hp))) := by rw [(bcell BW).1 p i hg]; exact C.out i hp
      have z12 : (bt (I[i]'hp)).size ≤ 12 := (G.out.im i hp).1
      have hzi : (bt (I[i]'hp)).size = il I i := (il_get hp).symm
      have hmn : mnL I i = min (mnL I (i - 1)) (il I i) := by
        obtain ⟨j, rfl⟩ : ∃ j, i = j + 1 := ⟨i - 1, by omega⟩
        rfl
      have hmx : mxL I i = max (mxL I (i - 1)) (il I i) := by
        obtain ⟨j, rfl⟩ : ∃ j, i = j + 1 := ⟨i - 1, by omega⟩
        rfl
      rw [← hzi] at hmn hmx
      have HMN := Lib.hid hmn
      have HMX := Lib.hid hmx
      have hic : i < cap := by omega
      clear hzi hmn hmx
      generalize bt (I[i]'hp) = z at *
      generalize mnL I (i - 1) = a at *
      generalize mxL I (i - 1) = b at *
      go_wp2_with fail
      go_roundw
      case rel => exact ⟨i + 1, by omega, by omega, by go_num, by rw [Nat.add_sub_cancel, HMN.out]; go_num, by rw [Nat.add_sub_cancel, HMX.out]; go_num, hB⟩
      case measure => simp [intOf]; omega
    · have hie : i = I.length := by omega
      subst hie
      have hab := mn_mx I (I.length - 1)
      have hti : ∀ (h : mnL I (I.length - 1) ≠ 0), _ := fun h => tlN_int (b := mxL I (I.length - 1)) h
      have HT := Lib.hid hti
      have HT0 : Hid (mnL I (I.length - 1) = 0 → tlN (mnL I (I.length - 1)) (mxL I (I.length - 1)) = 0) := Lib.hid (fun h => by unfold tlN; rw [if_pos h])
      clear hti
      generalize mnL I (I.length - 1) = a at *
      generalize mxL I (I.length - 1) = b at *
      by_cases ha : a = 0
      · have HV : Hid (tl = 0) := Lib.hid (by rw [← HTL.out]; exact HT0.out ha)
        clear HT HT0 HTL
        subst ha
        go_wp2_with fail
        go_ret
        exact ⟨by rw [HV.out]; rfl, BW⟩
      · have ha1 : 0 < a := by omega
        have ha0 : ¬ (a : Int) = 0 := by omega
        have HTT := Lib.hid (HT.out ha)
        by_cases hb3 : 3 ≤ b
        · have hmx : max ((b : Int) - 3) 0 = (b : Int) - 3 := by omega
          have HV : Hid ((tl : Int) = max 3 (((b : Int) - 3 + (a : Int) - 1) / (a : Int) + 1)) := Lib.hid (by rw [← HTL.out, HTT.out, hmx])
          have hq : (((b : Int) - 3 + (a : Int) - 1) / (a : Int)) ≤ 12 := by
            refine Int.ediv_le_of_le_mul (by omega) ?_
            have : (1 : Int) * 12 ≤ (a : Int) * 12 := Int.mul_le_mul_of_nonneg_right (by omega) (by omega)
            omega
          have hq0 : 0 ≤ (((b : Int) - 3 + (a : Int) - 1) / (a : Int)) := Int.ediv_nonneg (by omega) (by omega)
          have hb3i : ¬ (b : Int) - 3 < 0 := by omega
          by_cases hq3 : (((b : Int) - 3 + (a : Int) - 1) / (a : Int)) ≤ 2
          · have HV3 : Hid ((tl : Int) = 3) := Lib.hid (by rw [HV.out]; omega)
            clear HT HT0 HTL HTT HV ha hmx
            go_wp2_with fail
            go_ret
            exact ⟨by rw [HV3.out]; rfl, BW⟩
          · have HV3 : Hid ((tl : Int) = ((b : Int) - 3 + (a : Int) - 1) / (a : Int) + 1) := Lib.hid (by rw [HV.out]; omega)
            clear HT HT0 HTL HTT HV ha hmx
            go_wp2_with fail
            go_ret
            exact ⟨by rw [HV3.out]; rfl, BW⟩
        · have hz : ((a : Int) - 1) / (a : Int) = 0 := Int.ediv_eq_zero_of_lt (by omega) (by omega)
          have HV3 : Hid ((tl : Int) = 3) := Lib.hid (by rw [← HTL.out, HTT.out, show max ((b : Int) - 3) 0 = 0 by omega, Int.zero_add, hz]; rfl)
          have hb3i : (b : Int) - 3 < 0 := by omega
          clear HT HT0 HTL HTT ha
          go_wp2_with fail
          go_ret
          exact ⟨by rw [HV3.out]; rfl, BW⟩

end Go.Proofs.Ytolboinemechpab
