/- IsPrimitive: the program. -/
import Derived.Test.YtddfdciohnabbabPrimPlain
import Derived.Test.YtddfdciohnabbabMatI
import Derived.Deep.LoopGhost
namespace Go.Proofs.Ytddfdciohnabbab
set_option linter.unusedVariables false
set_option linter.unusedSimpArgs false
open Go.RowKit

theorem has0 {F : Nat → Nat} {m : Nat} (h5 : m ≤ 5) : (([(F 0 : Int), F 1, F 2, F 3, F 4].take m).contains 0 = true) ↔ ∃ v, v < m ∧ F v = 0 := by
  rcases (show m = 0 ∨ m = 1 ∨ m = 2 ∨ m = 3 ∨ m = 4 ∨ m = 5 by omega) with rfl | rfl | rfl | rfl | rfl | rfl
  all_goals simp only [List.take_succ_cons, List.take_zero, List.contains_cons, List.contains_nil, Bool.or_false, Bool.or_eq_true, beq_iff_eq]
  · constructor
    · intro h; cases h
    · rintro ⟨v, hv, _⟩; omega
  all_goals constructor
  all_goals try (rintro ⟨v, hv, e⟩; rcases (show v = 0 ∨ v = 1 ∨ v = 2 ∨ v = 3 ∨ v = 4 by omega) with rfl | rfl | rfl | rfl | rfl <;> omega)
  · intro h
    exact ⟨0, by omega, by omega⟩
  · intro h
    rcases h with h | h
    · exact ⟨0, by omega, by omega⟩
    · exact ⟨1, by omega, by omega⟩
  · intro h
    rcases h with h | h | h
    · exact ⟨0, by omega, by omega⟩
    · exact ⟨1, by omega, by omega⟩
    · exact ⟨2, by omega, by omega⟩
  · intro h
    rcases h with h | h | h | h
    · exact ⟨0, by omega, by omega⟩
    · exact ⟨1, by omega, by omega⟩
    · exact ⟨2, by omega, by omega⟩
    · exact ⟨3, by omega, by omega⟩
  · intro h
    rcases h with h | h | h | h | h
    · exact ⟨0, by omega, by omega⟩
    · exact ⟨1, by omega, by omega⟩
    · exact ⟨2, by omega, by omega⟩
    · exact ⟨3, by omega, by omega⟩
    · exact ⟨4, by omega, by omega⟩

set_option maxRecDepth 100000 in
set_option maxHeartbeats 4000000 in
theorem impl_IsPrimitive (B : Nat) (v : Value) (I : List (List UInt8)) (w : World) (h : OwnS w B v (I.map bt)) (t : Tot I) :
    Calls Try.prog 43 #[.agg #[v]] w fun e w' => e = .returned (.tuple #[.bool (primR I).1, .int .i64 (primR I).2]) ∧ Below w.heap.size w w' := by
  obtain ⟨p, c, hv⟩ := ownS_value h
  rw [List.length_map] at hv
  subst hv
  obtain ⟨W1, hW1⟩ : ∃ W1 : World, W1 = w.alloc (.cells #[.slice p I.length c] 57) := ⟨_, rfl⟩
  have B1 : Below w.heap.size w W1 := by rw [hW1]; exact Below.new _ _
  have Q1 : Boxed W1 w.heap.size 57 (.slice p I.length c) := by rw [hW1]; exact Boxed.new _ _ _
  have HW1 := Lib.hid hW1
  have HB1 := Lib.hid B1
  have HQ1 := Lib.hid Q1
  have H := Lib.hid (h.below B1)
  have hs1 := B1.size
  have hq1 := Q1.lt
  clear h hW1 B1 Q1
  by_cases g : Mor I
  · have h1 := g.len1
    have h5 := g.len5
    have c1 := fun W h => isMor_yes B (.slice p I.length c) I W h g
    rw [primR_ok g]
    have c4 := fun W h j (hj : j < I.length) i (hi : i ≤ 16) => counts_any B (.slice p I.length c) I (ct (hk I i [letr j])) W h g (fun q _ => acc_le g (lets_one g hj) hi q)
    have hee : ∀ j, j < I.length → ∀ i, (fun q => acc I (ct (hk I i [letr j])) q I.length) = ct (hk I (i + 1) [letr j]) := fun j hj i => funext fun q => acc_hk g (lets_one g hj) i q
    have HN := Lib.hid (primN_le g)
    have hpn := primN_le g
    obtain ⟨N, hN⟩ : ∃ N, primN I = N := ⟨_, rfl⟩
    have hsq : ((I.length : Int) - 1) * ((I.length : Int) - 1) + 1 = (N : Int) := by
      obtain ⟨m, hm⟩ : ∃ m, I.length = m + 1 := ⟨I.length - 1, by omega⟩
      rw [← hN]
      unfold primN
      rw [hm]
      simp
    have hs0 : (0 : Int) ≤ ((I.length : Int) - 1) * ((I.length : Int) - 1) := by
      have : (0 : Int) ≤ (N : Int) - 1 := by unfold primN at hN; omega
      omega
    have hs2 : ((I.length : Int) - 1) * ((I.length : Int) - 1) ≤ 16 := by omega
    have C1 := Lib.hid c1
    have C4 := Lib.hid c4
    have CE := Lib.hid hee
    have CO := Lib.hid (fun W i (hi : i < I.length) => oneLetter_any i (by omega) W)
    have RP : Hid (∀ i, rowP I i ↔ ∀ v, v < I.length → 0 < ct (hk I N [letr i]) v) := Lib.hid fun i => by unfold rowP; rw [hN]
    have PB := Lib.hid (primB_iff I)
    have hN17 : N ≤ 17 := by omega
    clear c1 c4 hee g t hN hpn
    go_enter Try.func43, Try.ntmps43
    go_wp2_with fail
    rw [← HW1.out]
    have kq := HQ1.out.cell
    go_wp2_with fail
    refine (C1.out _ H.out).mono ?_
    rintro e w1 ⟨rfl, b1⟩
    have q2 := boxed_later HQ1.out b1
    have S2 := Lib.hid (H.out.below b1)
    have hz2 := b1.size
    have B2 := Lib.hid b1
    clear kq b1
    have kq := q2.cell
    go_wp2_with fail
    go_loopg [14] I.length (fun gk t wr => ∃ i : Nat, i + gk = I.length ∧ t = .int .i64 (i : Int) ∧ Hid (∀ j, j < i → rowP I j) ∧ Below w1.heap.size w1 wr)
    case atStart => exact ⟨0, by omega, rfl, Lib.hid fun j hj => by omega, Below.refl _ _⟩
    case round =>
      obtain ⟨i, hi, rfl, HA, hB⟩ := hrel
      have hbz := hB.size
      by_cases hp : i < I.length
      · obtain ⟨g1, rfl⟩ : ∃ j, gk = j + 1 := ⟨gk - 1, by omega⟩
        have hpi : (i : Int) < (I.length : Int) := by omega
        obtain ⟨wo, hwo⟩ : ∃ wo : World, wo = wr := ⟨_, rfl⟩
        rw [← hwo] at hB hbz
        have q3 := boxed_later q2 hB
        have S3 := Lib.hid (S2.out.below hB)
        have HB := Lib.hid hB
        rw [← hwo]
        clear hB hwo kq
        have kq := q3.cell
        have kl := q3.lt
        go_wp2_with fail
        refine (CO.out _ i hp).mono ?_
        rintro e w3 ⟨rfl, b3⟩
        have b3s := b3.size
        have q4 := boxed_later q3 b3
        have q5 : Boxed (w3.alloc (.cells #[.int .i64 (ct [letr i] 0 : Int), .int .i64 (ct [letr i] 1 : Int), .int .i64 (ct [letr i] 2 : Int), .int .i64 (ct [letr i] 3 : Int), .int .i64 (ct [letr i] 4 : Int)] 91)) w.heap.size 57 (.slice p I.length c) := boxed_later q4 (Below.new _ _)
        have A3 := Lib.hid (Arr5.new w3 (ct [letr i]))
        have S4 := Lib.hid (S3.out.below b3)
        have kq4 := q5.cell
        go_wp2_with fail
        go_loopg [25] N (fun g2 s wr => ∃ k : Nat, k + g2 = N ∧ s = .int .i64 (k : Int) ∧ Arr5 wr w3.heap.size (ct (hk I k [letr i])) ∧ Below w3.heap.size w3 wr)
        case atStart => exact ⟨0, by omega, rfl, A3.out, Below.new _ _⟩
        case round =>
          clear kq kq4
          obtain ⟨k, hk2, rfl, a1, hB2⟩ := hrel
          have hbw := hB2.size
          by_cases hpk : k < N
          · obtain ⟨g2, rfl⟩ : ∃ j, gk = j + 1 := ⟨gk - 1, by omega⟩
            have kq := (boxed_later q4 hB2).cell
            have hkk : (k : Int) < (N : Int) := by omega
            have k0 := a1.cell 0 (by omega)
            have k1 := a1.cell 1 (by omega)
            have k2 := a1.cell 2 (by omega)
            have k3 := a1.cell 3 (by omega)
            have k4 := a1.cell 4 (by omega)
            have c5 := C4.out wr (S4.out.below hB2) i hp k (by omega)
            rw [CE.out i hp k] at c5
            have C5 := Lib.hid c5
            have A1 := Lib.hid a1
            clear c5 a1
            obtain ⟨f1, hf1⟩ : ∃ f1, ct (hk I (k + 1) [letr i]) = f1 := ⟨_, rfl⟩
            rw [hf1] at C5
            have HF1 := Lib.hid hf1
            clear hf1
            generalize ct (hk I k [letr i]) = f0 at *
            go_wp2_with fail
            refine C5.out.mono ?_
            rintro e w5 ⟨rfl, b5⟩
            have a5 := A1.out.later b5
            have B5 := hB2.then b5
            have hz5 := B5.size
            have h35 := a5.lt
            have A6 : Hid (Arr5 (((((w5.setCell ⟨w3.heap.size, 0, none⟩ (.int .i64 (f1 0 : Int))).setCell ⟨w3.heap.size, 1, none⟩ (.int .i64 (f1 1 : Int))).setCell ⟨w3.heap.size, 2, none⟩ (.int .i64 (f1 2 : Int))).setCell ⟨w3.heap.size, 3, none⟩ (.int .i64 (f1 3 : Int))).setCell ⟨w3.heap.size, 4, none⟩ (.int .i64 (f1 4 : Int))) w3.heap.size f1) := Lib.hid (arr5_store a5 f1)
            have B6 := Lib.hid (below_store5 B5 (Nat.le_refl _) f1)
            have e0 := a5.cell 0 (by omega)
            have e1 := a5.cell 1 (by omega)
            have e2 := a5.cell 2 (by omega)
            have e3 := a5.cell 3 (by omega)
            have e4 := a5.cell 4 (by omega)
            have fz0 := a5.frozen 0
            have fz1 := a5.frozen 1
            have fz2 := a5.frozen 2
            have fz3 := a5.frozen 3
            have fz4 := a5.frozen 4
            clear a5 k0 k1 k2 k3 k4
            go_wp2_with fail
            go_roundg g2
            case measure => omega
            case rel => exact ⟨k + 1, by omega, by go_num, by rw [HF1.out]; exact A6.out, B6.out⟩
          · obtain rfl : gk = 0 := by omega
            obtain rfl : k = N := by omega
            have hkk : ¬ (k : Int) < (k : Int) := by omega
            have hsl := fun W => slice5 w3.heap.size I.length h5 W
            have ccl := Try.slices_Contains_int w3.heap.size 0 I.length 5 [(ct (hk I k [letr i]) 0 : Int), ct (hk I k [letr i]) 1, ct (hk I k [letr i]) 2, ct (hk I k [letr i]) 3, ct (hk I k [letr i]) 4] 0 wr (by simpa using h5) (by omega) (fun j hj => by
              have hj5 : j < 5 := by simpa using hj
              rw [Nat.zero_add, a1.cell j hj5]
              rcases (show j = 0 ∨ j = 1 ∨ j = 2 ∨ j = 3 ∨ j = 4 by omega) with rfl | rfl | rfl | rfl | rfl <;> rfl)
            have hh := has0 (F := ct (hk I k [letr i])) h5
            obtain ⟨cb, hcb⟩ : ∃ cb, ([(ct (hk I k [letr i]) 0 : Int), ct (hk I k [letr i]) 1, ct (hk I k [letr i]) 2, ct (hk I k [letr i]) 3, ct (hk I k [letr i]) 4].take I.length).contains 0 = cb := ⟨_, rfl⟩
            rw [hcb] at ccl hh
            have HH := Lib.hid hh
            have CCL := Lib.hid ccl
            clear hcb hh ccl a1
            go_wp2_with fail
            refine CCL.out.mono ?_
            rintro e w7 ⟨rfl, rfl⟩
            have hBx := HB.out.then (b3.then hB2)
            cases cb with
            | true =>
              have HP : Hid (primB I = false) := Lib.hid (by
                obtain ⟨v, hv, e⟩ := HH.out.1 rfl
                rw [Bool.eq_false_iff]
                intro hc
                have := (RP.out i).1 ((PB.out.1 hc) i hp) v hv
                omega)
              go_wp2_with fail
              go_ret2
              exact ⟨by rw [HP.out]; rfl, HB1.out.then (B2.out.then hBx)⟩
            | false =>
              have HA2 : Hid (∀ j, j < i + 1 → rowP I j) := Lib.hid fun j hj => by
                by_cases e : j = i
                · subst e
                  rw [RP.out]
                  intro v hv
                  apply Nat.pos_of_ne_zero
                  intro e0
                  have := HH.out.2 ⟨v, hv, e0⟩
                  cases this
                · exact HA.out j (by omega)
              go_wp2_with fail
              go_roundg g1
              case measure => omega
              case rel => exact ⟨i + 1, by omega, by go_num, HA2, hBx⟩
      · obtain rfl : gk = 0 := by omega
        obtain rfl : i = I.length := by omega
        have hpi : ¬ (I.length : Int) < (I.length : Int) := by omega
        go_wp2_with fail
        go_ret2
        refine ⟨?_, HB1.out.then (B2.out.then hB)⟩
        rw [PB.out.2 (fun j hj => HA.out j hj)]
        rfl
  · rw [primR_bad g]
    have c1 := fun W h => isMor_no B (.slice p I.length c) I W h t g
    have C1 := Lib.hid c1
    clear c1 g t
    go_enter Try.func43, Try.ntmps43
    go_wp2_with fail
    rw [← HW1.out]
    have kq := HQ1.out.cell
    go_wp2_with fail
    refine (C1.out _ H.out).mono ?_
    rintro e w1 ⟨rfl, b1⟩
    go_wp2_with fail
    go_ret2
    exact ⟨rfl, HB1.out.then b1⟩

end Go.Proofs.Ytddfdciohnabbab
