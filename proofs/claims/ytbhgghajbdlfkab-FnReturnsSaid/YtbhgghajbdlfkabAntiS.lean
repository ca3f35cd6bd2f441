/- The first of the longest antipowers: the model. -/
import Derived.Test.YtbhgghajbdlfkabAntiI
import Derived.Test.YtbhgghajbdlfkabNum5
namespace Go.Proofs.Ytbhgghajbdlfkab
set_option linter.unusedVariables false
set_option linter.unusedSimpArgs false
open Go.RowKit

theorem idx_neg {y : ByteArray} {L : List ByteArray} (h : inL y L = false) : Lib.idxOfS L y < 0 := by
  rcases Int.lt_or_le (Lib.idxOfS L y) 0 with k | k
  · exact k
  · rw [(inL_iff y L).2 ((Lib.idxOfS_nonneg_iff L y).1 k)] at h
    cases h
theorem idx_pos {y : ByteArray} {L : List ByteArray} (h : inL y L = true) : ¬ Lib.idxOfS L y < 0 := by
  have := (Lib.idxOfS_nonneg_iff L y).2 ((inL_iff y L).1 h)
  omega

set_option maxRecDepth 100000 in
set_option maxHeartbeats 1000000 in
theorem l05Anti_any (x : ByteArray) (i m : Nat) (w : World) (hx : x.size ≤ 60) (hi : i ≤ x.size) (hm : 1 ≤ m) (hm2 : m ≤ 60) :
    Calls Try.prog 83 #[.string x, .int .i64 (i : Int), .int .i64 (m : Int)] w fun e w' => e = .returned (.int .i64 (antiK x m i : Int)) ∧ Below w.heap.size w w' := by
  obtain ⟨i0, hi0, hz0, hz1, hz2⟩ := info_parts infoStr
  have HM : Hid ((antiL x m 61 i []).length = antiK x m i) := Lib.hid rfl
  generalize antiK x m i = K at *
  generalize hAE : antiL x m 61 i [] = A at *
  go_enter Try.func83, Try.ntmps83
  go_wp2
  go_loopg [1, 7] 61 (fun gk s v wr => ∃ (j : Nat) (seen : List ByteArray), seen.length + gk = 61 ∧ j = i + seen.length * m ∧ j ≤ x.size ∧ s = .int .i64 (j : Int) ∧ Hid (antiL x m gk j seen = A) ∧ wr.ownsRow w.heap.size 9 1 v seen.length (seen.map Value.string) ∧ Below w.heap.size w wr)
  case atStart =>
    exact ⟨i, [], rfl, by simp, hi, rfl, Lib.hid hAE, World.ownsRow_lit w #[] 0 (Nat.le_refl _) (by decide) (by simp), Below.new _ _⟩
  case round =>
    clear hAE
    obtain ⟨j, seen, hsl, hj, hjx, rfl, HA, hown, hB⟩ := hrel
    have hbz := hB.size
    have HJ := Lib.hid (And.intro hsl hj)
    by_cases hp : j + m ≤ x.size
    · have hlen : seen.length ≤ 60 := by
        have : seen.length * 1 ≤ seen.length * m := Nat.mul_le_mul_left _ hm
        omega
      obtain ⟨gq, rfl⟩ : ∃ gq, gk = gq + 1 := ⟨gk - 1, by omega⟩
      have hge : (j : Int) + (m : Int) ≤ (x.size : Int) := by omega
      have hs1 := fun W => slice_mid x j m hp W
      have HC : Hid (∀ W v, W.ownsRow w.heap.size 9 1 v seen.length (seen.map Value.string) → Calls Try.prog 116 #[v, .string (x.extract j (j + m))] W fun e w' => e = .returned (.int .i64 (Lib.idxOfS seen (x.extract j (j + m)))) ∧ Below W.heap.size W w') :=
        Lib.hid fun W v hv => l05Number_any w.heap.size v seen (x.extract j (j + m)) W hv (by omega)
      have hys : (x.extract j (j + m)).size = m := by simp; omega
      have HJX := Lib.hid hj
      clear hsl hj
      cases hin : inL (x.extract j (j + m)) seen with
      | false =>
        have hneg := idx_neg hin
        have HA2 : Hid (antiL x m gq (j + m) (seen ++ [x.extract j (j + m)]) = A) := Lib.hid (by rw [← antiL_step x m j gq seen hp hin]; exact HA.out)
        clear hin
        generalize Lib.idxOfS seen (x.extract j (j + m)) = r at *
        generalize x.extract j (j + m) = y at *
        go_wp2_with fail
        refine (HC.out _ _ hown).mono ?_
        rintro e w2 ⟨rfl, b2⟩
        have hown := own_below hown b2
        have hB := hB.then b2
        have hbz := hB.size
        clear b2
        go_wp2_with (at_builtin; refine wpList_append_own _ rfl _ _ 36 rfl w.heap.size 9 i0 (.string ⟨#[]⟩) 1 16 Try.underlying36 hi0 hz0 hz1 hz2 rfl (by decide) _ _ _ rfl (hown.alloc _) ⟨_, 0, none⟩ 1 1 [.string y] rfl rfl (cell_new _ _ _) (by intro u hu; simp at hu; subst hu; rfl) (by unfold maxLen; omega) (by omega) (by simp; omega) ?_; intro v' w3 hown' hgrow _)
        go_roundg gq
        case measure => omega
        case rel =>
          refine ⟨j + m, seen ++ [y], ?_, ?_, by omega, by go_num, HA2, ?_, ?_⟩
          · have := HJ.out.1; simp; omega
          · have := HJ.out.2; simp; rw [Nat.add_mul]; omega
          · rw [List.length_append, List.map_append]; exact hown'
          · exact (hB.alloc hbz _).grown hgrow (by simp; omega) (fun q hq => (hown.lt q hq).1)
      | true =>
        have hpos := idx_pos hin
        have HE : Hid (seen = A) := Lib.hid (by
          rw [← HA.out, antiL_stop x m j seen (fun k => by rw [hin] at k; exact absurd k.2 (by decide))])
        clear hin
        obtain ⟨a1, c1, rfl⟩ : ∃ a c, u7 = .slice a seen.length c := by
          rcases own_forms hown with ⟨rfl, h0, _⟩ | ⟨g, cap, rfl, _⟩
          · exact ⟨_, _, by rw [h0]⟩
          · exact ⟨_, _, rfl⟩
        have HOW := Lib.hid hown
        clear hown
        generalize Lib.idxOfS seen (x.extract j (j + m)) = r at *
        generalize x.extract j (j + m) = y at *
        go_wp2_with fail
        refine (HC.out _ _ HOW.out).mono ?_
        rintro e w2 ⟨rfl, b2⟩
        go_wp2_with fail
        go_ret
        have e9 : seen.length = K := by rw [HE.out]; exact HM.out
        exact ⟨by rw [← e9]; rfl, hB.then b2⟩
    · have HE : Hid (seen = A) := Lib.hid (by rw [← HA.out, antiL_stop x m j seen (fun k => hp k.1)])
      have hge : ¬ (j : Int) + (m : Int) ≤ (x.size : Int) := by omega
      obtain ⟨a1, c1, rfl⟩ : ∃ a c, u7 = .slice a seen.length c := by
        rcases own_forms hown with ⟨rfl, h0, _⟩ | ⟨g, cap, rfl, _⟩
        · exact ⟨_, _, by rw [h0]⟩
        · exact ⟨_, _, rfl⟩
      have HJX := Lib.hid hj
      clear hown hsl hj
      go_wp2
      go_ret
      have e9 : seen.length = K := by rw [HE.out]; exact HM.out
      exact ⟨by rw [← e9]; rfl, hB⟩

set_option maxRecDepth 100000 in
set_option maxHeartbeats 1000000 in
theorem spec_LongestAntipower_ok (x : ByteArray) (m : Nat) (w : World) (h : IsW x) (hm : 1 ≤ m) (hm2 : m ≤ 60) (hmx : m ≤ x.size) :
    Calls Try.prog 41 #[.string x, .int .i64 (m : Int)] w fun e w' => e = .returned (.tuple #[.int .i64 ((antiB x m (x.size + 1 - m)).1 : Int), .int .i64 ((antiB x m (x.size + 1 - m)).2 : Int), .int .i64 0]) ∧ Below w.heap.size w w' := by
  have hx := h.size
  have HT := Lib.hid fun w => l05Code_any x (m : Int) w (by unfold maxLen; omega)
  rw [code5_ok h (by omega)] at HT
  have HA := Lib.hid fun (i : Nat) (W : World) (hi : i ≤ x.size) => l05Anti_any x i m W hx hi hm hm2
  have HL := Lib.hid fun n => antiB_le x m n
  have HK := Lib.hid fun n => antiK_le x m n
  have HP := Lib.hid (antiB_pos hmx (x.size + 1 - m) (by omega))
  have H := Lib.hid h
  have hm1 : ¬ (m : Int) < 1 := by omega
  obtain ⟨p0, q0, HPQ⟩ : ∃ p q, Hid (antiB x m (x.size + 1 - m) = (p, q)) := ⟨_, _, Lib.hid rfl⟩
  rw [HPQ.out]
  dsimp only
  clear h
  go_enter Try.func41, Try.ntmps41
  go_wp2_with fail
  refine (HT.out _).mono ?_
  rintro e w1 ⟨rfl, b1⟩
  go_wp2
  go_loopg [8, 9, 10] (x.size + 1 - m) (fun gk p g i wr => ∃ k : Nat, k + gk = x.size + 1 - m ∧ i = .int .i64 (k : Int) ∧ p = .int .i64 ((antiB x m k).1 : Int) ∧ g = .int .i64 ((antiB x m k).2 : Int) ∧ Below w.heap.size w wr)
  case atStart => exact ⟨0, by omega, rfl, rfl, rfl, b1⟩
  case round =>
    obtain ⟨k, hk, rfl, rfl, rfl, hB⟩ := hrel
    by_cases hp : k + m ≤ x.size
    · obtain ⟨gq, rfl⟩ : ∃ gq, gk = gq + 1 := ⟨gk - 1, by omega⟩
      have HKK := Lib.hid hk
      have hpi : (k : Int) + (m : Int) ≤ (x.size : Int) := by omega
      have HC := Lib.hid fun W => HA.out k W (by omega)
      have hb := HL.out k
      have hkk := HK.out k
      have HS : Hid (antiB x m (k + 1) = if (antiB x m k).2 < antiK x m k then (k, antiK x m k) else antiB x m k) := Lib.hid rfl
      clear hk
      generalize antiK x m k = q at *
      obtain ⟨p1, p2⟩ : ∃ a b, antiB x m k = (a, b) := ⟨_, _, rfl⟩
      obtain ⟨p2, hpp⟩ := p2
      rw [hpp] at hb HS
      rw [hpp]
      clear hpp
      dsimp only at hb HS ⊢
      by_cases hlt : p2 < q
      · have hqi : (p2 : Int) < (q : Int) := by omega
        go_wp2_with (go_at_call 83; refine (HC.out _).mono ?_; rintro e w2 ⟨rfl, b2⟩)
        go_roundg gq
        case measure => omega
        case rel => exact ⟨k + 1, by have := HKK.out; omega, by go_num, by rw [HS.out, if_pos hlt], by rw [HS.out, if_pos hlt], hB.then b2⟩
      · have hqi : ¬ (p2 : Int) < (q : Int) := by omega
        go_wp2_with (go_at_call 83; refine (HC.out _).mono ?_; rintro e w2 ⟨rfl, b2⟩)
        go_roundg gq
        case measure => omega
        case rel => exact ⟨k + 1, by have := HKK.out; omega, by go_num, by rw [HS.out, if_neg hlt], by rw [HS.out, if_neg hlt], hB.then b2⟩
    · obtain rfl : gk = 0 := by omega
      obtain rfl : k = x.size + 1 - m := by omega
      have hpi : ¬ ((x.size + 1 - m : Nat) : Int) + (m : Int) ≤ (x.size : Int) := by omega
      have hq0 := HP.out
      rw [HPQ.out] at hq0 ⊢
      dsimp only at hq0 ⊢
      have hpz : ((q0 : Int) == 0) = false := beq_eq_false_iff_ne.2 (by omega)
      generalize hke : x.size + 1 - m = k at *
      have hkm : k + m ≤ 61 := by omega
      clear hke
      go_wp2
      go_ret3
      exact ⟨rfl, hB⟩

set_option maxRecDepth 100000 in
set_option maxHeartbeats 1000000 in
theorem spec_LongestAntipower_none (x : ByteArray) (m : Nat) (w : World) (h : IsW x) (hm : 1 ≤ m) (hm2 : m ≤ 60) (hmx : x.size < m) :
    Calls Try.prog 41 #[.string x, .int .i64 (m : Int)] w fun e w' => e = .returned (.tuple #[.int .i64 0, .int .i64 0, .int .i64 4]) ∧ Below w.heap.size w w' := by
  have hx := h.size
  have HT := Lib.hid fun w => l05Code_any x (m : Int) w (by unfold maxLen; omega)
  rw [code5_ok h (by omega)] at HT
  have H := Lib.hid h
  have hm1 : ¬ (m : Int) < 1 := by omega
  have hpi : ¬ (m : Int) ≤ (x.size : Int) := by omega
  clear h
  go_enter Try.func41, Try.ntmps41
  go_wp2_with fail
  refine (HT.out _).mono ?_
  rintro e w1 ⟨rfl, b1⟩
  go_wp2
  refine wp_loop_rounds 1 ?_
  rw [rounds_succ]
  go_wp2
  go_ret3
  exact ⟨rfl, b1⟩

set_option maxRecDepth 100000 in
theorem spec_LongestAntipower (x : ByteArray) (m : Int) (w : World) (sx : x.size ≤ maxLen) (wm : (Lit.int .i64 m).wf = true) :
    Calls Try.prog 41 #[.string x, .int .i64 m] w fun e w' => e = .returned (.tuple #[.int .i64 (laR x m).1, .int .i64 (laR x m).2.1, .int .i64 (laR x m).2.2]) ∧ Below w.heap.size w w' := by
  have HT := Lib.hid fun w => l05Code_any x m w sx
  by_cases h : IsW x
  · by_cases ho : m < 0 ∨ 60 < m
    · rw [laR_out h (by omega)]
      rw [code5_out h ho] at HT
      have H := Lib.hid h
      clear h ho
      go_enter Try.func41, Try.ntmps41
      go_wp2_with fail
      refine (HT.out _).mono ?_
      rintro e w1 ⟨rfl, b1⟩
      go_wp2_with fail
      go_ret3
      exact ⟨rfl, b1⟩
    · rw [code5_ok h ho] at HT
      by_cases h1 : m < 1
      · rw [laR_out h (.inl h1)]
        have H := Lib.hid h
        clear h ho
        go_enter Try.func41, Try.ntmps41
        go_wp2_with fail
        refine (HT.out _).mono ?_
        rintro e w1 ⟨rfl, b1⟩
        go_wp2_with fail
        go_ret3
        exact ⟨rfl, b1⟩
      · obtain ⟨n, rfl⟩ := Int.eq_ofNat_of_zero_le (show 0 ≤ m by omega)
        by_cases h3 : x.size < n
        · rw [laR_none h ⟨by omega, by omega⟩ h3]
          exact spec_LongestAntipower_none x n w h (by omega) (by omega) h3
        · rw [laR_ok h ⟨by omega, by omega⟩ (by omega)]
          exact spec_LongestAntipower_ok x n w h (by omega) (by omega) (by omega)
  · rw [laR_bad h]
    rw [code5_bad h] at HT
    have H := Lib.hid h
    clear h
    go_enter Try.func41, Try.ntmps41
    go_wp2_with fail
    refine (HT.out _).mono ?_
    rintro e w1 ⟨rfl, b1⟩
    go_wp2_with fail
    go_ret3
    exact ⟨rfl, b1⟩

end Go.Proofs.Ytbhgghajbdlfkab
