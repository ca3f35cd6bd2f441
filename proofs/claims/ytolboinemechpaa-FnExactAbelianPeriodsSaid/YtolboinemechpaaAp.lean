/- Abelian periods: the program and the model. -/
import Derived.Test.YtolboinemechpaaApPlain
import Derived.Test.YtolboinemechpaaAbI
import Derived.Test.YtolboinemechpaaAbS
namespace Go.Proofs.Ytolboinemechpaa
set_option linter.unusedVariables false
set_option linter.unusedSimpArgs false
open Go.RowKit

set_option maxRecDepth 100000 in
set_option maxHeartbeats 1000000 in
theorem isAtMost_any (a b : List UInt8) (w : World) :
    Calls Try.prog 93 #[vecV (ct a), vecV (ct b)] w fun e w' => e = .returned (.bool (vle a b)) ∧ Below w.heap.size w w' := by
  obtain ⟨R, hR⟩ : ∃ R, vle a b = R := ⟨_, rfl⟩
  rw [hR]
  have HR := Lib.hid hR
  have IX := Lib.hid fun j hj W => idx5 (ct a) j hj W
  have AB : Arr5 ((w.alloc (.cells #[.int .i64 (ct a 0 : Int), .int .i64 (ct a 1 : Int), .int .i64 (ct a 2 : Int), .int .i64 (ct a 3 : Int), .int .i64 (ct a 4 : Int)] 55)).alloc (.cells #[.int .i64 (ct b 0 : Int), .int .i64 (ct b 1 : Int), .int .i64 (ct b 2 : Int), .int .i64 (ct b 3 : Int), .int .i64 (ct b 4 : Int)] 55)) (w.heap.size + 1) (ct b) := by
    have := Arr5.new (w.alloc (.cells #[.int .i64 (ct a 0 : Int), .int .i64 (ct a 1 : Int), .int .i64 (ct a 2 : Int), .int .i64 (ct a 3 : Int), .int .i64 (ct a 4 : Int)] 55)) (ct b)
    rw [World.size_alloc] at this
    exact this
  have BB : Below w.heap.size w ((w.alloc (.cells #[.int .i64 (ct a 0 : Int), .int .i64 (ct a 1 : Int), .int .i64 (ct a 2 : Int), .int .i64 (ct a 3 : Int), .int .i64 (ct a 4 : Int)] 55)).alloc (.cells #[.int .i64 (ct b 0 : Int), .int .i64 (ct b 1 : Int), .int .i64 (ct b 2 : Int), .int .i64 (ct b 3 : Int), .int .i64 (ct b 4 : Int)] 55)) := (Below.new _ _).alloc (by simp) _
  have HAB := Lib.hid AB
  have HBB := Lib.hid BB
  clear hR AB BB
  go_enter Try.func93, Try.ntmps93
  go_wp2
  go_loopg [8] 5 (fun gk s8 wr => ∃ j : Nat, j + gk = 5 ∧ s8 = .int .i64 (j : Int) ∧ Hid (vleTo a b j) ∧ Arr5 wr (w.heap.size + 1) (ct b) ∧ Below w.heap.size w wr)
  case atStart => exact ⟨0, by omega, rfl, Lib.hid (vleTo.zero a b), HAB.out, HBB.out⟩
  case round =>
    obtain ⟨j, hg, rfl, HT, hA, hB⟩ := hrel
    by_cases hj : j < 5
    · obtain ⟨g, rfl⟩ : ∃ g, gk = g + 1 := ⟨gk - 1, by omega⟩
      have hix := fun W => IX.out j hj W
      have kc := hA.cell j hj
      by_cases he : ct a j ≤ ct b j
      · have HT2 := Lib.hid (HT.out.succ he)
        have hei : ¬ (ct b j : Int) < (ct a j : Int) := by omega
        generalize (ct a j : Int) = z at *
        generalize (ct b j : Int) = y at *
        clear he
        go_wp2
        go_roundg g
        case measure => omega
        case rel => exact ⟨j + 1, by omega, by go_num, HT2, hA, hB⟩
      · have HN : Hid (R = false) := Lib.hid (by rw [← HR.out]; exact vle_no hj he)
        have hei : (ct b j : Int) < (ct a j : Int) := by omega
        generalize (ct a j : Int) = z at *
        generalize (ct b j : Int) = y at *
        clear he
        go_wp2
        go_ret
        exact ⟨by rw [HN.out]; rfl, hB⟩
    · obtain rfl : gk = 0 := by omega
      obtain rfl : j = 5 := by omega
      have HN : Hid (R = true) := Lib.hid (by rw [← HR.out]; exact HT.out.all)
      go_wp2
      go_ret
      exact ⟨by rw [HN.out]; rfl, hB⟩

set_option maxRecDepth 100000 in
set_option maxHeartbeats 1000000 in
theorem l07Within_any (B B' : Nat) (v u : Value) (a b : List UInt8) (w : World) (ha : OwnI w B v (clv a)) (hb : OwnI w B' u (clv b)) :
    Calls Try.prog 92 #[v, u] w fun e w' => e = .returned (.bool (vle a b)) ∧ Below w.heap.size w w' := by
  obtain ⟨g1, c1, rfl, _, hg1, hc1, hm, cell1, _⟩ := ha.row (by rw [clv_len]; decide)
  obtain ⟨g2, c2, rfl, _, hg2, hc2, _, cell2, _⟩ := hb.row (by rw [clv_len]; decide)
  have C1 : Hid (∀ j, j < 5 → w.cell? ⟨g1, j, none⟩ = some (.int .i64 (ct a j : Int))) := Lib.hid fun j hj => by
    have h1 := cell1 j (by rw [clv_len]; exact hj)
    have h2 := clv_get a j hj
    rw [List.getElem?_eq_getElem (by rw [clv_len]; exact hj)] at h2
    rw [h1, Option.some.inj h2]
  have C2 : Hid (∀ j, j < 5 → w.cell? ⟨g2, j, none⟩ = some (.int .i64 (ct b j : Int))) := Lib.hid fun j hj => by
    have h1 := cell2 j (by rw [clv_len]; exact hj)
    have h2 := clv_get b j hj
    rw [List.getElem?_eq_getElem (by rw [clv_len]; exact hj)] at h2
    rw [h1, Option.some.inj h2]
  rw [clv_len] at hc1 hc2 ⊢
  rw [clv_len]
  clear ha hb cell1 cell2 hm
  obtain ⟨R, hR⟩ : ∃ R, vle a b = R := ⟨_, rfl⟩
  rw [hR]
  have HR := Lib.hid hR
  clear hR
  go_enter Try.func92, Try.ntmps92
  go_wp2
  go_loopw [5] (fun i wr => ∃ k : Nat, k ≤ 5 ∧ i = .int .i64 k ∧ Hid (vleTo a b k) ∧ Below w.heap.size w wr) (fun i _ => 5 - (intOf i).toNat)
  case atStart => exact ⟨0, Nat.zero_le _, rfl, Lib.hid (vleTo.zero a b), Below.refl _ _⟩
  case round =>
    obtain ⟨k, hk, rfl, HQ, hB⟩ := hrel
    by_cases hp : k < 5
    · have k1 : wr.cell? ⟨g1, k, none⟩ = some (.int .i64 (ct a k : Int)) := by rw [(bcell hB).1 g1 k hg1]; exact C1.out k hp
      have k2 : wr.cell? ⟨g2, k, none⟩ = some (.int .i64 (ct b k : Int)) := by rw [(bcell hB).1 g2 k hg2]; exact C2.out k hp
      have hpc1 : k < c1 := by omega
      have hpc2 : k < c2 := by omega
      by_cases he : ct a k ≤ ct b k
      · have HQ2 := Lib.hid (HQ.out.succ he)
        have hei : ¬ (ct b k : Int) < (ct a k : Int) := by omega
        generalize (ct a k : Int) = z at *
        generalize (ct b k : Int) = y at *
        clear he
        go_wp2
        go_quiet (fail)
        go_wp2
        go_roundw
        case rel => exact ⟨k + 1, by omega, by go_num, HQ2, hB.drewN _⟩
        case measure => simp [intOf]; omega
      · have HN : Hid (R = false) := Lib.hid (by rw [← HR.out]; exact vle_no hp he)
        have hei : (ct b k : Int) < (ct a k : Int) := by omega
        generalize (ct a k : Int) = z at *
        generalize (ct b k : Int) = y at *
        clear he
        go_wp2
        go_quiet (fail)
        go_wp2
        go_ret
        exact ⟨by rw [HN.out]; rfl, hB.drewN _⟩
    · have hke : k = 5 := by omega
      subst hke
      have HN : Hid (R = true) := Lib.hid (by rw [← HR.out]; exact HQ.out.all)
      go_wp2
      go_ret
      exact ⟨by rw [HN.out]; rfl, hB⟩

theorem slice_fr (x : ByteArray) (a : Int) (n : Nat) (ha : a = (n : Int)) (h : n ≤ x.size) (W : World) :
    (Instr.slice 9 (.string x) (some (.int .i64 a)) none none).run Try.prog W = .ok (.string (x.extract n x.size)) W := by
  subst ha
  have := run_slice_string_l (P := Try.prog) W 9 x Try.underlying9 .i64 (n : Int) (by omega) (by omega)
  simpa using this

set_option maxRecDepth 100000 in
set_option maxHeartbeats 2000000 in
theorem l07Period_any (x : ByteArray) (h m : Nat) (w : World) (hw : IsW x) (hn : h ≤ x.size) (m1 : 1 ≤ m) (m2 : m ≤ 60) :
    Calls Try.prog 70 #[.string x, .int .i64 (h : Int), .int .i64 (m : Int)] w fun e w' => e = .returned (.bool (decide (apT (bl x) m h))) ∧ Below w.heap.size w w' := by
  obtain ⟨R, hR⟩ : ∃ R, decide (apT (bl x) m h) = R := ⟨_, rfl⟩
  rw [hR]
  have HR := Lib.hid hR
  have hx := hw.size
  have HW := Lib.hid hw
  clear hR hw
  obtain ⟨D, hD⟩ : ∃ D, x.size - h = D := ⟨_, rfl⟩
  have hDi : (x.size : Int) - (h : Int) = (D : Int) := by omega
  obtain ⟨C, hC⟩ : ∃ C, D / m = C := ⟨_, rfl⟩
  have hCi : (D : Int) / (m : Int) = (C : Int) := by rw [← hC, Int.natCast_ediv]
  have hCl : C ≤ D := by rw [← hC]; exact Nat.div_le_self _ _
  have hD60 : D ≤ 60 := by omega
  have HDv : Hid (∀ r, r < C → (r + 1) * m ≤ D) := Lib.hid fun r hr => by
    rw [← hC] at hr
    exact (Nat.le_div_iff_mul_le (by omega)).1 hr
  have HC : Hid (((bl x).length - h) / m = C) := Lib.hid (by rw [bl_len, hD, hC])
  by_cases hc : h + m ≤ x.size
  · have hci : ¬ (x.size : Int) < (h : Int) + (m : Int) := by omega
    have CF := Lib.hid fun W => l01Count_ct (x.extract h (h + m)) W (HW.out.sub _ _)
    have hsl := fun W => slice_nm x (h : Int) ((h : Int) + (m : Int)) h (h + m) rfl (by omega) (by omega) (by omega) W
    have hF : bl (x.extract h (h + m)) = ((bl x).drop h).take m := by rw [bl_extract, Nat.add_sub_cancel_left]
    rw [hF] at CF
    have hC1 : 1 ≤ C := by rw [← hC]; exact (Nat.le_div_iff_mul_le (by omega)).2 (by omega)
    have HD := Lib.hid hD
    clear hF hC hD
    go_enter Try.func70, Try.ntmps70
    go_wp2_with fail
    refine (CF.out _).mono ?_
    rintro e w1 ⟨v, rfl, o1, b1⟩
    have O1 := Lib.hid o1
    clear o1 hsl
    go_wp2_with fail
    go_loopg [10] C (fun gk j wr => ∃ r : Nat, 1 ≤ r ∧ r + gk = C + 1 ∧ r ≤ C ∧ j = .int .i64 (r : Int) ∧ Hid (apTo (bl x) h m r) ∧ Below w1.heap.size w1 wr)
    case atStart => exact ⟨1, by omega, by omega, by omega, rfl, Lib.hid (apTo.one _ _ _), Below.refl _ _⟩
    case round =>
      obtain ⟨r, hr1, hr, hrk', rfl, HT, hB⟩ := hrel
      by_cases hp : r < C
      · obtain ⟨g, rfl⟩ : ∃ g, gk = g + 1 := ⟨gk - 1, by omega⟩
        obtain ⟨P1, hP1⟩ : ∃ P, r * m = P := ⟨_, rfl⟩
        have hP1i : (r : Int) * (m : Int) = (P1 : Int) := by rw [← hP1]; exact (Int.natCast_mul r m).symm
        have hP2 : (r + 1) * m = P1 + m := by rw [← hP1, Nat.add_mul, Nat.one_mul]
        have hP2i : ((r : Int) + 1) * (m : Int) = (P1 : Int) + (m : Int) := by rw [Int.add_mul, hP1i, Int.one_mul]
        have hle : P1 + m ≤ D := by rw [← hP2]; exact HDv.out r hp
        have CG := Lib.hid fun W => l01Count_ct (x.extract (h + P1) (h + (P1 + m))) W (HW.out.sub _ _)
        have hDn := HD.out
        have hsl2 := fun W => slice_nm x ((h : Int) + (P1 : Int)) ((h : Int) + ((P1 : Int) + (m : Int))) (h + P1) (h + (P1 + m)) (by omega) (by omega) (by omega) (by omega) W
        have hG : bl (x.extract (h + P1) (h + (P1 + m))) = ((bl x).drop (h + P1)).take m := by rw [bl_extract, show h + (P1 + m) - (h + P1) = m by omega]
        rw [hG] at CG
        have HV : Hid (((bl x).drop (h + P1)).take m = ((bl x).drop (h + r * m)).take m) := Lib.hid (by rw [hP1])
        have hrk : (r : Int) < (C : Int) := by omega
        clear hG hP1 hP2 hDn
        obtain ⟨q, hq⟩ : ∃ q, vq (((bl x).drop h).take m) (((bl x).drop (h + P1)).take m) = q := ⟨_, rfl⟩
        have HQ := Lib.hid hq
        have hO := O1.out.below hB
        clear hq
        go_wp2_with fail
        refine (CG.out _).mono ?_
        rintro e w2 ⟨u, rfl, o2, b2⟩
        have hO2 := hO.below b2
        go_wp2_with fail
        refine (l07Same_any _ _ _ _ _ _ _ hO2 o2).mono ?_
        rintro e w3 ⟨rfl, b3⟩
        rw [HQ.out]
        have hB3 := (hB.then b2).then b3
        clear hO hO2 o2 hsl2 b2 b3
        cases q with
        | true =>
          have HT2 := Lib.hid (HT.out.succ (by rw [← HV.out]; exact HQ.out))
          go_wp2
          go_roundg g
          case measure => omega
          case rel => exact ⟨r + 1, by omega, by omega, by omega, by go_num, HT2, hB3⟩
        | false =>
          have HN : Hid (R = false) := Lib.hid (by
            rw [← HR.out]
            refine decide_eq_false fun q => ?_
            have h1 := (alk_apTo (bl x) h m m1).1 q.2.1
            rw [HC.out] at h1
            have h2 := h1 r hr1 hp
            rw [← HV.out, HQ.out] at h2
            cases h2)
          go_wp2
          go_ret
          exact ⟨by rw [HN.out]; rfl, b1.then hB3⟩
      · obtain rfl : r = C := by omega
        have hrk : ¬ (r : Int) < (r : Int) := by omega
        have HAL : Hid (alk ((bl x).drop h) m) := Lib.hid ((alk_apTo (bl x) h m m1).2 (by rw [HC.out]; exact HT.out))
        obtain ⟨Q, hQ⟩ : ∃ Q, r * m = Q := ⟨_, rfl⟩
        have hQi : (r : Int) * (m : Int) = (Q : Int) := by rw [← hQ]; exact (Int.natCast_mul r m).symm
        have hQD : Q ≤ D := by
          rw [← hQ]
          have := HDv.out (r - 1) (by omega)
          rwa [show r - 1 + 1 = r by omega] at this
        have hDn := HD.out
        have hsl1 := fun W => slice_0m x h hn W
        have hsl2 := fun W => slice_fr x ((h : Int) + (Q : Int)) (h + Q) (by omega) (by omega) W
        have CA := Lib.hid fun W => l01Count_ct (x.extract 0 h) W (HW.out.sub _ _)
        have CB := Lib.hid fun W => l01Count_ct (x.extract (h + Q) x.size) W (HW.out.sub _ _)
        rw [bl_take] at CA
        rw [bl_drop] at CB
        obtain ⟨q1, hq1⟩ : ∃ q, vle ((bl x).take h) (((bl x).drop h).take m) = q := ⟨_, rfl⟩
        obtain ⟨q2, hq2⟩ : ∃ q, vle ((bl x).drop (h + Q)) (((bl x).drop h).take m) = q := ⟨_, rfl⟩
        have HQ1 := Lib.hid hq1
        have HQ2 := Lib.hid hq2
        have HRR : Hid (R = (q1 && q2)) := Lib.hid (by
          rw [← HR.out, ← hq1, ← hq2, Bool.eq_iff_iff, decide_eq_true_iff, Bool.and_eq_true]
          unfold apT
          rw [HC.out, hQ, bl_len]
          exact ⟨fun q => ⟨q.2.2.1, q.2.2.2⟩, fun q => ⟨hc, HAL.out, q.1, q.2⟩⟩)
        have hO := O1.out.below hB
        clear hq1 hq2 hQ hDn
        go_wp2_with fail
        refine (CA.out _).mono ?_
        rintro e w2 ⟨u, rfl, o2, b2⟩
        have hO2 := hO.below b2
        go_wp2_with fail
        refine (l07Within_any _ _ _ _ _ _ _ o2 hO2).mono ?_
        rintro e w3 ⟨rfl, b3⟩
        rw [HQ1.out]
        have hO3 := hO2.below b3
        have hB3 := (hB.then b2).then b3
        clear hO hO2 o2 b2 b3 hsl1
        cases q1 with
        | false =>
          have HN : Hid (R = false) := Lib.hid HRR.out
          go_wp2
          go_ret
          exact ⟨by rw [HN.out]; rfl, b1.then hB3⟩
        | true =>
          have HN : Hid (R = q2) := Lib.hid (by rw [HRR.out, Bool.true_and])
          go_wp2_with fail
          refine (CB.out _).mono ?_
          rintro e w4 ⟨u2, rfl, o4, b4⟩
          have hO4 := hO3.below b4
          go_wp2_with fail
          refine (l07Within_any _ _ _ _ _ _ _ o4 hO4).mono ?_
          rintro e w5 ⟨rfl, b5⟩
          rw [HQ2.out]
          go_wp2_with fail
          go_ret
          exact ⟨by rw [HN.out]; rfl, b1.then ((hB3.then b4).then b5)⟩
  · have hci : (x.size : Int) < (h : Int) + (m : Int) := by omega
    have HN : Hid (R = false) := Lib.hid (by
      rw [← HR.out]
      exact decide_eq_false fun q => hc (by have := q.1; rw [bl_len] at this; exact this))
    clear hC hD
    go_enter Try.func70, Try.ntmps70
    go_wp2
    go_ret
    exact ⟨by rw [HN.out]; rfl, Below.refl _ _⟩

end Go.Proofs.Ytolboinemechpaa
