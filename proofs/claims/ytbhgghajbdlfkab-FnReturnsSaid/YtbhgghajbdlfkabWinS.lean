/- The window of a length: the model. -/
import Derived.Test.YtbhgghajbdlfkabWin
import Derived.Test.YtbhgghajbdlfkabNum5
import Derived.Test.YtbhgghajbdlfkabFactorsS
import Derived.StillTailTactics
import Derived.IntWalk
namespace Go.Proofs.Ytbhgghajbdlfkab
set_option linter.unusedVariables false
set_option linter.unusedSimpArgs false
open Go.RowKit

theorem OwnS.formW {w : World} {B : Nat} {v : Value} {L : List ByteArray} (h : OwnS w B v L) : ∃ a c, v = .slice a L.length c := by
  obtain ⟨a, c, e, _⟩ := h.look5
  exact ⟨a, c, e⟩
theorem wholeB_no {x : ByteArray} {n : Nat} {L : List ByteArray} {i k : Nat} (hi : i + n ≤ x.size) (hk : k < L.length) (h : hasAt x n (L[k]'hk) i = false) : wholeB x n L = false := by
  apply Bool.eq_false_iff.2
  intro hw
  have := (wholeB_iff x n L).1 hw _ (List.getElem_mem hk) i hi
  rw [h] at this
  cases this

set_option maxRecDepth 100000 in
set_option maxHeartbeats 2000000 in
theorem l05Whole_any (x : ByteArray) (n : Nat) (B : Nat) (v : Value) (L : List ByteArray) (w : World) (hx : x.size ≤ 60) (hn : n ≤ x.size) (hL : ∀ u ∈ L, u.size ≤ 60) (hl : L.length ≤ 61) (hv : OwnS w B v L) :
    Calls Try.prog 81 #[.string x, .int .i64 (n : Int), v] w fun e w' => e = .returned (.bool (wholeB x n L)) ∧ Below w.heap.size w w' := by
  have hmo : Try.prog.follows .mixedOrders = true := by kernel_rfl
  obtain ⟨a1, c1, rfl, k1⟩ := hv.look5
  have K1 := Lib.hid k1
  have HL := Lib.hid hL
  obtain ⟨R, HR⟩ : ∃ R, Hid (wholeB x n L = R) := ⟨_, Lib.hid rfl⟩
  rw [HR.out]
  clear hv k1 hL
  go_enter Try.func81, Try.ntmps81
  go_wp2
  go_loopg [7] (x.size + 1 - n) (fun gk i wr => ∃ k : Nat, k + gk = x.size + 1 - n ∧ i = .int .i64 (k : Int) ∧ Hid (∀ j, j < k → ∀ u ∈ L, hasAt x n u j = true) ∧ Below w.heap.size w wr)
  case atStart => exact ⟨0, by omega, rfl, Lib.hid (fun j hj => by omega), Below.refl _ _⟩
  case round =>
    obtain ⟨k, hk, rfl, HA, hB⟩ := hrel
    by_cases hp : k + n ≤ x.size
    · obtain ⟨gq, rfl⟩ : ∃ gq, gk = gq + 1 := ⟨gk - 1, by omega⟩
      have HK := Lib.hid hk
      have hpi : (k : Int) + (n : Int) ≤ (x.size : Int) := by omega
      have hsl := fun W => slice_mid x k n hp W
      have hysz : (x.extract k (k + n)).size ≤ 60 := by simp; omega
      clear hk
      go_wp2
      go_loopg [8] L.length (fun g2 j wr' => ∃ q : Nat, q + g2 = L.length ∧ j = .int .i64 (q : Int) ∧ Hid (∀ p (h : p < L.length), p < q → hasAt x n (L[p]'h) k = true) ∧ Below w.heap.size w wr')
      case atStart => exact ⟨0, by omega, rfl, Lib.hid (fun p _ h => by omega), hB⟩
      case round =>
        clear hB
        obtain ⟨q, hq, rfl, HQ, hB⟩ := hrel
        by_cases hp2 : q < L.length
        · obtain ⟨gr, rfl⟩ : ∃ gr, gk = gr + 1 := ⟨gk - 1, by omega⟩
          have HQQ := Lib.hid hq
          obtain ⟨g1, rfl, hg1, hc1, h10⟩ := K1.out q hp2
          have cL := ((bcell hB).1 g1 q hg1).trans h10
          have hus := HL.out _ (List.getElem_mem hp2)
          have HC := Lib.hid fun W => l01Places_any (x.extract k (k + n)) (L[q]'hp2) W hysz hus
          have HH : Hid (hasAt x n (L[q]'hp2) k = !decide ((posOf (x.extract k (k + n)) (L[q]'hp2) (List.range ((x.extract k (k + n)).size + 1 - (L[q]'hp2).size))).length = 0)) := Lib.hid rfl
          have HF : Hid (hasAt x n (L[q]'hp2) k = false → wholeB x n L = false) := Lib.hid (wholeB_no hp hp2)
          have HQ2 : Hid (hasAt x n (L[q]'hp2) k = true → ∀ p (h : p < L.length), p < q + 1 → hasAt x n (L[p]'h) k = true) := Lib.hid fun e p h h2 => by
            by_cases e2 : p = q
            · subst e2; exact e
            · exact HQ.out p h (by omega)
          have hpj : (q : Int) < (L.length : Int) := by omega
          have wq1 : IntKind.i64.wrap ((k : Int) + (n : Int)) = (k : Int) + (n : Int) := IntWalk.i64_in _ (by omega)
          generalize hasAt x n (L[q]'hp2) k = hb at *
          generalize posOf (x.extract k (k + n)) (L[q]'hp2) (List.range ((x.extract k (k + n)).size + 1 - (L[q]'hp2).size)) = P at *
          generalize L[q]'hp2 = u at *
          generalize x.extract k (k + n) = y at *
          clear hq h10
          by_cases hP : P.length = 0
          · have he : ((P.length : Int) == 0) = true := by rw [hP]; rfl
            have HE : Hid (R = false) := Lib.hid (by rw [← HR.out]; exact HF.out (by rw [HH.out, decide_eq_true hP]; rfl))
            clear hP
            go_wp2
            go_still_tail 10, hmo
            change wpList _ _ _ _ _ wr.drew
            go_wp2_with fail
            refine (HC.out _).mono ?_
            rintro e w3 ⟨v3, rfl, o3, b3⟩
            obtain ⟨a3, c3, rfl⟩ := OwnI.formG o3
            clear o3
            go_wp2_with fail
            go_ret
            exact ⟨by rw [HE.out]; rfl, (hB.drew).then b3⟩
          · have he : ((P.length : Int) == 0) = false := beq_eq_false_iff_ne.2 (by omega)
            have HT := Lib.hid (HQ2.out (by rw [HH.out, decide_eq_false hP]; rfl))
            clear hP
            go_wp2
            go_still_tail 10, hmo
            change wpList _ _ _ _ _ wr.drew
            go_wp2_with fail
            refine (HC.out _).mono ?_
            rintro e w3 ⟨v3, rfl, o3, b3⟩
            obtain ⟨a3, c3, rfl⟩ := OwnI.formG o3
            clear o3
            go_wp2_with fail
            go_roundg gr
            case measure => omega
            case rel => exact ⟨q + 1, by have := HQQ.out; omega, by go_num, HT, (hB.drew).then b3⟩
        · obtain rfl : gk = 0 := by omega
          obtain rfl : q = L.length := by omega
          have HA2 : Hid (∀ j, j < k + 1 → ∀ u ∈ L, hasAt x n u j = true) := Lib.hid fun j hj u hu => by
            by_cases e : j = k
            · subst e
              obtain ⟨p, hp3, rfl⟩ := List.getElem_of_mem hu
              exact HQ.out p hp3 hp3
            · exact HA.out j (by omega) u hu
          have hpj : ¬ ((L.length : Int) < (L.length : Int)) := by omega
          go_wp2
          go_roundg gq
          case measure => omega
          case rel => exact ⟨k + 1, by have := HK.out; omega, by go_num, HA2, hB⟩
    · obtain rfl : gk = 0 := by omega
      have hpi : ¬ (k : Int) + (n : Int) ≤ (x.size : Int) := by omega
      have hkk : k + n = x.size + 1 := by omega
      have HE : Hid (R = true) := Lib.hid (by
        rw [← HR.out]
        exact (wholeB_iff x n L).2 fun u hu i hi => HA.out i (by omega) u hu)
      have hk61 : k + n ≤ 61 := by omega
      clear hk hkk
      go_wp2
      go_ret
      exact ⟨by rw [HE.out]; rfl, hB⟩

set_option maxRecDepth 100000 in
set_option maxHeartbeats 2000000 in
theorem spec_WindowOf_ok (x : ByteArray) (m : Nat) (w : World) (h : IsW x) (hm : m ≤ 60) (hmx : m ≤ x.size) (sx : x.size ≤ maxLen) :
    Calls Try.prog 37 #[.string x, .int .i64 (m : Int)] w fun e w' => e = .returned (.tuple #[.int .i64 (winOf x m (facs x m)), .int .i64 0]) ∧ Below w.heap.size w w' := by
  have hx := h.size
  have HT := Lib.hid fun w => l05Code_any x (m : Int) w sx
  rw [code5_ok h (by omega)] at HT
  have HP : Hid (∀ w, Calls Try.prog 48 #[.string x, .int .i64 (m : Int)] w fun e w' => ∃ v, e = .returned v ∧ OwnS w' w.heap.size v (facs x m) ∧ Below w.heap.size w w') := Lib.hid fun w => l01Factors_any x m w hx hm
  obtain ⟨N, hN, hmN, hNx, hN1, hN2⟩ := win_least x m hmx
  have lL : (facs x m).length ≤ 61 := by have := facs_len x m; omega
  have l0 : (facs x m).length ≠ 0 := by
    intro e
    have hw := List.eq_nil_of_length_eq_zero e
    have : x.extract 0 (0 + m) ∈ facs x m := (mem_facK x m _ _).2 ⟨0, by omega, rfl⟩
    rw [hw] at this
    cases this
  have HW : Hid (∀ (n : Nat) (v : Value) (B : Nat) (W : World), n ≤ x.size → OwnS W B v (facs x m) → Calls Try.prog 81 #[.string x, .int .i64 (n : Int), v] W fun e w' => e = .returned (.bool (wholeB x n (facs x m))) ∧ Below W.heap.size W w') :=
    Lib.hid fun n v B W hn hv => l05Whole_any x n B v (facs x m) W hx hn (fun u hu => by have := (facs_pos u hu).1; omega) lL hv
  rw [hN]
  have HN1 := Lib.hid hN1
  have HN2 := Lib.hid hN2
  generalize facs x m = L at *
  have hzi : ((L.length : Int) == 0) = false := beq_eq_false_iff_ne.2 (by omega)
  clear h hN hN1 hN2 l0
  go_enter Try.func37, Try.ntmps37
  go_wp2_with fail
  refine (HT.out _).mono ?_
  rintro e w1 ⟨rfl, b1⟩
  go_wp2_with fail
  refine (HP.out _).mono ?_
  rintro e w2 ⟨v2, rfl, o2, b2⟩
  have HO := Lib.hid o2
  obtain ⟨a2, c2, rfl⟩ := OwnS.formW o2
  have B2 := b1.then b2
  clear o2 b1
  go_wp2
  go_loopg [8] (N - m) (fun gk i wr => ∃ n : Nat, n + gk = N ∧ m ≤ n ∧ i = .int .i64 (n : Int) ∧ OwnS wr w1.heap.size (.slice a2 L.length c2) L ∧ Below w.heap.size w wr)
  case atStart => exact ⟨m, by omega, Nat.le_refl _, rfl, HO.out, B2⟩
  case round =>
    obtain ⟨n, hn, hmn, rfl, hown, hB⟩ := hrel
    by_cases hp : n < N
    · obtain ⟨gq, rfl⟩ : ∃ gq, gk = gq + 1 := ⟨gk - 1, by omega⟩
      have HK := Lib.hid hn
      have HWn := Lib.hid (HW.out n _ _ wr (by omega) hown)
      rw [HN2.out n hmn hp] at HWn
      have HOW := Lib.hid hown
      clear hn hown
      go_wp2_with fail
      refine HWn.out.mono ?_
      rintro e w3 ⟨rfl, b3⟩
      have hown3 := OwnS.below HOW.out b3
      go_wp2_with fail
      go_roundg gq
      case measure => omega
      case rel => exact ⟨n + 1, by have := HK.out; omega, by omega, by go_num, hown3, hB.then b3⟩
    · obtain rfl : gk = 0 := by omega
      obtain rfl : n = N := by omega
      have HWn := Lib.hid (HW.out n _ _ wr hNx hown)
      rw [HN1.out] at HWn
      clear hn hown
      go_wp2_with fail
      refine HWn.out.mono ?_
      rintro e w3 ⟨rfl, b3⟩
      go_wp2_with fail
      go_ret2
      exact ⟨rfl, hB.then b3⟩

set_option maxRecDepth 100000 in
theorem spec_WindowOf (x : ByteArray) (m : Int) (w : World) (sx : x.size ≤ maxLen) (wm : (Lit.int .i64 m).wf = true) :
    Calls Try.prog 37 #[.string x, .int .i64 m] w fun e w' => e = .returned (.tuple #[.int .i64 (winR x m).1, .int .i64 (winR x m).2]) ∧ Below w.heap.size w w' := by
  have HT := Lib.hid fun w => l05Code_any x m w sx
  by_cases h : IsW x
  · by_cases ho : m < 0 ∨ 60 < m
    · rw [winR_out h ho]
      rw [code5_out h ho] at HT
      clear h ho
      go_enter Try.func37, Try.ntmps37
      go_wp2_with fail
      refine (HT.out _).mono ?_
      rintro e w1 ⟨rfl, b1⟩
      go_wp2_with fail
      go_ret2
      exact ⟨rfl, b1⟩
    · obtain ⟨n, rfl⟩ := Int.eq_ofNat_of_zero_le (show 0 ≤ m by omega)
      have hx := h.size
      by_cases h3 : x.size < n
      · rw [winR_none h (by omega) h3]
        rw [code5_ok h ho] at HT
        have HP : Hid (∀ w, Calls Try.prog 48 #[.string x, .int .i64 (n : Int)] w fun e w' => ∃ v, e = .returned v ∧ OwnS w' w.heap.size v (facs x n) ∧ Below w.heap.size w w') := Lib.hid fun w => l01Factors_any x n w hx (by omega)
        rw [facs_none h3] at HP
        clear h ho
        go_enter Try.func37, Try.ntmps37
        go_wp2_with fail
        refine (HT.out _).mono ?_
        rintro e w1 ⟨rfl, b1⟩
        go_wp2_with fail
        refine (HP.out _).mono ?_
        rintro e w2 ⟨v2, rfl, o2, b2⟩
        obtain ⟨a2, c2, rfl⟩ := OwnS.empty o2
        go_wp2_with fail
        go_ret2
        exact ⟨rfl, b1.then b2⟩
      · rw [winR_ok h (by omega) (by omega)]
        exact spec_WindowOf_ok x n w h (by omega) (by omega) sx
  · rw [winR_bad h]
    rw [code5_bad h] at HT
    clear h
    go_enter Try.func37, Try.ntmps37
    go_wp2_with fail
    refine (HT.out _).mono ?_
    rintro e w1 ⟨rfl, b1⟩
    go_wp2_with fail
    go_ret2
    exact ⟨rfl, b1⟩

end Go.Proofs.Ytbhgghajbdlfkab
