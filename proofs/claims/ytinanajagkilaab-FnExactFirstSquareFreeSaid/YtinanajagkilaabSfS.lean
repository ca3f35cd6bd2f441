/- The number of the square free words of a length, and the first one: the model. -/
import Derived.Test.YtinanajagkilaabNext
import Derived.Test.YtinanajagkilaabSfCount
namespace Go.Proofs.Ytinanajagkilaab
set_option linter.unusedVariables false
set_option linter.unusedSimpArgs false
open Go.RowKit

set_option maxRecDepth 100000 in
set_option maxHeartbeats 2000000 in
theorem l03Count_any (k m : Nat) (hk : k ≤ 3) (hk1 : 1 ≤ k) (hm : m ≤ 12) : ∀ (f : Nat) (x : ByteArray) (w : World), x.size + f = m →
    Calls Try.prog 35 #[.string x, .int .i64 (m : Int), .int .i64 (k : Int)] w fun e w' => e = .returned (.int .i64 ((dfs k f (bl x)).length : Int)) ∧ Below w.heap.size w w'
  | 0, x, w, hx => by
    have hxm : ((x.size : Int) == (m : Int)) = true := by rw [beq_iff_eq]; omega
    have hxm2 : (x.size : Int) = (m : Int) := by omega
    go_enter Try.func35, Try.ntmps35
    go_wp2
    go_ret
    exact ⟨rfl, Below.refl _ _⟩
  | f + 1, x, w, hx => by
    have hxm : ((x.size : Int) == (m : Int)) = false := by rw [beq_eq_false_iff_ne]; omega
    have hxm2 : ¬ (x.size : Int) = (m : Int) := by omega
    have hl := Nat.le_trans (dfs_len k (f + 1) (bl x)) (pow_12 hk (show f + 1 ≤ 12 by omega))
    obtain ⟨R, hR⟩ : ∃ R, dfs k (f + 1) (bl x) = R := ⟨_, rfl⟩
    rw [hR] at hl ⊢
    have HR : Hid (kids (dfs k f) (bl x) 0 k = R) := Lib.hid (by rw [← hR, dfs])
    have IH := Lib.hid (l03Count_any k m hk hk1 hm f)
    have HX := Lib.hid hx
    have x60 : x.size ≤ 11 := by omega
    clear hR hx
    go_enter Try.func35, Try.ntmps35
    go_wp2_with fail
    go_loopg [7, 8] k (fun g s7 s8 wr => ∃ (c n : Nat), c + g = k ∧ s7 = .int .i64 (n : Int) ∧ s8 = .int .i64 (c : Int) ∧ Below w.heap.size w wr ∧ Hid (n + (kids (dfs k f) (bl x) c g).length = R.length))
    case atStart => exact ⟨0, 0, by omega, rfl, rfl, Below.refl _ _, Lib.hid (by rw [HR.out]; simp)⟩
    case round =>
      obtain ⟨c, n, hg, rfl, rfl, hB, HN⟩ := hrel
      by_cases hp : c < k
      · obtain ⟨g, rfl⟩ : ∃ g, gk = g + 1 := ⟨gk - 1, by omega⟩
        have hpi : (c : Int) < (k : Int) := by omega
        have hsz := size_lt1 x c
        have e1 := lt1_size c
        have LT := Lib.hid (show (⟨#[letB (c : Int)]⟩ : ByteArray) = lt1 c from rfl)
        have e4 : (lt1 c).size ≤ 1 := by omega
        have hsum : ∀ W, (Op.stringOp .add x (lt1 c)).run Try.prog W = .ok (.string (x ++ lt1 c)) W := fun W => run_string_add_sum W _ _ (by rw [lt1_size]; omega)
        have e2 : (x ++ lt1 c).size ≤ 60 := by omega
        have CS := fun w => l03First_end (x ++ lt1 c) ((x ++ lt1 c).size : Int) w (by omega) (by omega) rfl
        have CI := Lib.hid fun w => IH.out (x ++ lt1 c) w (by have := HX.out; omega)
        rw [bl_lt1] at CS CI
        have hnl : n ≤ 531441 := by have := HN.out; omega
        by_cases he : sa (bl x ++ [letB (c : Int)]) (x.size + 1) = 0
        · have he0 : decide (¬ sa (bl x ++ [letB (c : Int)]) (x ++ lt1 c).size = 0) = false := by rw [hsz, he]; rfl
          rw [he0] at CS
          have CS2 := Lib.hid CS
          obtain ⟨d, hd⟩ : ∃ d, (dfs k f (bl x ++ [letB (c : Int)])).length = d := ⟨_, rfl⟩
          rw [hd] at CI
          have HN2 : Hid (n + d + (kids (dfs k f) (bl x) (c + 1) g).length = R.length) := Lib.hid (by
            rw [← HN.out, kids_hit he, List.length_append, hd]; omega)
          have hdl : n + d ≤ 531441 := by have := HN2.out; omega
          clear he he0 CS hsz e1 hd
          generalize lt1 c = t at *
          generalize x ++ t = y at *
          go_wp2_with fail
          refine (l01Letter_any c _ (by omega) (by omega)).mono ?_
          rintro e w4 ⟨rfl, b4⟩
          rw [LT.out]
          go_simp
          go_wp2_with fail
          refine (CS2.out _).mono ?_
          rintro e w5 ⟨a, b, rfl, b5⟩
          go_simp
          go_wp2_with fail
          refine (CI.out _).mono ?_
          rintro e w6 ⟨rfl, b6⟩
          have hB2 := ((hB.then b4).then b5).then b6
          clear hB b4 b5 b6
          go_simp
          go_wp2_with fail
          go_roundg g
          case measure => omega
          case rel => exact ⟨c + 1, n + d, by omega, by go_num, by go_num, hB2, HN2⟩
        · have he0 : decide (¬ sa (bl x ++ [letB (c : Int)]) (x ++ lt1 c).size = 0) = true := by rw [hsz]; exact decide_eq_true he
          rw [he0] at CS
          have CS2 := Lib.hid CS
          have HN2 : Hid (n + (kids (dfs k f) (bl x) (c + 1) g).length = R.length) := Lib.hid (by rw [← HN.out, kids_miss he])
          clear he he0 CS hsz e1 CI
          generalize lt1 c = t at *
          generalize x ++ t = y at *
          go_wp2_with fail
          refine (l01Letter_any c _ (by omega) (by omega)).mono ?_
          rintro e w4 ⟨rfl, b4⟩
          rw [LT.out]
          go_simp
          go_wp2_with fail
          refine (CS2.out _).mono ?_
          rintro e w5 ⟨a, b, rfl, b5⟩
          have hB2 := (hB.then b4).then b5
          clear hB b4 b5
          go_simp
          go_wp2_with fail
          go_roundg g
          case measure => omega
          case rel => exact ⟨c + 1, n, by omega, by go_num, by go_num, hB2, HN2⟩
      · have hpi : ¬ (c : Int) < (k : Int) := by omega
        obtain rfl : gk = 0 := by omega
        have HV : Hid (n = R.length) := Lib.hid (by rw [← HN.out]; rfl)
        go_wp2
        go_ret
        rw [← HV.out]
        exact ⟨rfl, hB⟩

/-- What a search for the first word comes to. -/
def FoundP (D : List (List UInt8)) (w : World) (e : Ending) (w' : World) : Prop := ∃ (s : ByteArray) (ok : Bool), e = .returned (.tuple #[.string s, .bool ok]) ∧ Hid ((ok = true ∧ D.head? = some (bl s)) ∨ (ok = false ∧ s = ⟨#[]⟩ ∧ D = [])) ∧ Below w.heap.size w w'

set_option maxRecDepth 100000 in
set_option maxHeartbeats 2000000 in
theorem l03Find_any (k m : Nat) (hk : k ≤ 5) (hk1 : 1 ≤ k) (hm : m ≤ 30) : ∀ (f : Nat) (x : ByteArray) (w : World), x.size + f = m →
    Calls Try.prog 37 #[.string x, .int .i64 (m : Int), .int .i64 (k : Int)] w (FoundP (dfs k f (bl x)) w)
  | 0, x, w, hx => by
    have hxm : ((x.size : Int) == (m : Int)) = true := by rw [beq_iff_eq]; omega
    have hxm2 : (x.size : Int) = (m : Int) := by omega
    go_enter Try.func37, Try.ntmps37
    go_wp2
    go_ret2
    exact ⟨_, _, rfl, Lib.hid (.inl ⟨rfl, rfl⟩), Below.refl _ _⟩
  | f + 1, x, w, hx => by
    have hxm : ((x.size : Int) == (m : Int)) = false := by rw [beq_eq_false_iff_ne]; omega
    have hxm2 : ¬ (x.size : Int) = (m : Int) := by omega
    obtain ⟨R, hR⟩ : ∃ R, dfs k (f + 1) (bl x) = R := ⟨_, rfl⟩
    rw [hR]
    have HR : Hid (kids (dfs k f) (bl x) 0 k = R) := Lib.hid (by rw [← hR, dfs])
    have IH := Lib.hid (l03Find_any k m hk hk1 hm f)
    have HX := Lib.hid hx
    have x60 : x.size ≤ 29 := by omega
    clear hR hx
    go_enter Try.func37, Try.ntmps37
    go_wp2_with fail
    go_loopg [8] k (fun g s8 wr => ∃ c : Nat, c + g = k ∧ s8 = .int .i64 (c : Int) ∧ Below w.heap.size w wr ∧ Hid (kids (dfs k f) (bl x) c g = R))
    case atStart => exact ⟨0, by omega, rfl, Below.refl _ _, HR⟩
    case round =>
      obtain ⟨c, hg, rfl, hB, HN⟩ := hrel
      clear HR
      by_cases hp : c < k
      · obtain ⟨g, rfl⟩ : ∃ g, gk = g + 1 := ⟨gk - 1, by omega⟩
        have hpi : (c : Int) < (k : Int) := by omega
        have hsz := size_lt1 x c
        have e1 := lt1_size c
        have LT := Lib.hid (show (⟨#[letB (c : Int)]⟩ : ByteArray) = lt1 c from rfl)
        have e4 : (lt1 c).size ≤ 1 := by omega
        have hsum : ∀ W, (Op.stringOp .add x (lt1 c)).run Try.prog W = .ok (.string (x ++ lt1 c)) W := fun W => run_string_add_sum W _ _ (by rw [lt1_size]; omega)
        have e2 : (x ++ lt1 c).size ≤ 60 := by omega
        have CS := fun w => l03First_end (x ++ lt1 c) ((x ++ lt1 c).size : Int) w (by omega) (by omega) rfl
        have CI := Lib.hid fun w => IH.out (x ++ lt1 c) w (by have := HX.out; omega)
        rw [bl_lt1] at CS CI
        by_cases he : sa (bl x ++ [letB (c : Int)]) (x.size + 1) = 0
        · have he0 : decide (¬ sa (bl x ++ [letB (c : Int)]) (x ++ lt1 c).size = 0) = false := by rw [hsz, he]; rfl
          rw [he0] at CS
          have CS2 := Lib.hid CS
          have HK : Hid (dfs k f (bl x ++ [letB (c : Int)]) ++ kids (dfs k f) (bl x) (c + 1) g = R) := Lib.hid (by rw [← HN.out, kids_hit he])
          clear he he0 CS hsz e1
          generalize dfs k f (bl x ++ [letB (c : Int)]) = D at *
          generalize lt1 c = t at *
          generalize x ++ t = y at *
          go_wp2_with fail
          refine (l01Letter_any c _ (by omega) (by omega)).mono ?_
          rintro e w4 ⟨rfl, b4⟩
          rw [LT.out]
          go_simp
          go_wp2_with fail
          refine (CS2.out _).mono ?_
          rintro e w5 ⟨a, b, rfl, b5⟩
          go_simp
          go_wp2_with fail
          refine (CI.out _).mono ?_
          rintro e w6 ⟨s, ok, rfl, HF, b6⟩
          have hB2 := ((hB.then b4).then b5).then b6
          clear hB b4 b5 b6
          cases ok with
          | true =>
            have HV : Hid (R.head? = some (bl s)) := Lib.hid (by
              rcases HF.out with ⟨_, h⟩ | ⟨h, _⟩
              · rw [← HK.out, List.head?_append, h]; rfl
              · cases h)
            go_simp
            go_wp2_with fail
            go_ret2
            exact ⟨_, _, rfl, Lib.hid (.inl ⟨rfl, HV.out⟩), hB2⟩
          | false =>
            have HV : Hid (kids (dfs k f) (bl x) (c + 1) g = R) := Lib.hid (by
              rcases HF.out with ⟨h, _⟩ | ⟨_, _, h⟩
              · cases h
              · rw [← HK.out, h]; rfl)
            go_simp
            go_wp2_with fail
            go_roundg g
            case measure => omega
            case rel => exact ⟨c + 1, by omega, by go_num, hB2, HV⟩
        · have he0 : decide (¬ sa (bl x ++ [letB (c : Int)]) (x ++ lt1 c).size = 0) = true := by rw [hsz]; exact decide_eq_true he
          rw [he0] at CS
          have CS2 := Lib.hid CS
          have HN2 : Hid (kids (dfs k f) (bl x) (c + 1) g = R) := Lib.hid (by rw [← HN.out, kids_miss he])
          clear he he0 CS hsz e1 CI
          generalize lt1 c = t at *
          generalize x ++ t = y at *
          go_wp2_with fail
          refine (l01Letter_any c _ (by omega) (by omega)).mono ?_
          rintro e w4 ⟨rfl, b4⟩
          rw [LT.out]
          go_simp
          go_wp2_with fail
          refine (CS2.out _).mono ?_
          rintro e w5 ⟨a, b, rfl, b5⟩
          have hB2 := (hB.then b4).then b5
          clear hB b4 b5
          go_simp
          go_wp2_with fail
          go_roundg g
          case measure => omega
          case rel => exact ⟨c + 1, by omega, by go_num, hB2, HN2⟩
      · have hpi : ¬ (c : Int) < (k : Int) := by omega
        obtain rfl : gk = 0 := by omega
        have HV : Hid (R = []) := Lib.hid (by rw [← HN.out]; rfl)
        go_wp2
        go_ret2
        exact ⟨_, _, rfl, Lib.hid (.inr ⟨rfl, rfl, HV.out⟩), hB⟩

set_option maxRecDepth 100000 in
theorem spec_CountSquareFree (m k : Int) (w : World) (wm : (Lit.int .i64 m).wf = true) (wk : (Lit.int .i64 k).wf = true) :
    Calls Try.prog 15 #[.int .i64 m, .int .i64 k] w fun e w' => e = .returned (.tuple #[.int .i64 (countSfR m k).1, .int .i64 (countSfR m k).2]) ∧ Below w.heap.size w w' := by
  by_cases h : m < 0 ∨ 12 < m ∨ k < 1 ∨ 3 < k
  · rw [countSfR_out h]
    by_cases hm : 0 ≤ m ∧ m ≤ 12
    · have HK : Hid (¬ (1 ≤ k ∧ k ≤ 3)) := Lib.hid (by omega)
      have HM := Lib.hid hm
      clear h hm
      go_enter Try.func15, Try.ntmps15
      go_wp2_with fail
      refine (l01In_yes _ _ _ _ HM.out.1 HM.out.2).mono ?_
      rintro e w1 ⟨rfl, b1⟩
      go_simp
      go_wp2_with fail
      refine (l01In_no _ _ _ _ HK.out).mono ?_
      rintro e w2 ⟨rfl, b2⟩
      go_simp
      go_wp2_with fail
      go_ret2
      exact ⟨rfl, b1.then b2⟩
    · have HM := Lib.hid hm
      clear h hm
      go_enter Try.func15, Try.ntmps15
      go_wp2_with fail
      refine (l01In_no _ _ _ _ HM.out).mono ?_
      rintro e w1 ⟨rfl, b1⟩
      go_simp
      go_wp2_with fail
      go_ret2
      exact ⟨rfl, b1⟩
  · obtain ⟨a, rfl⟩ := Int.eq_ofNat_of_zero_le (show 0 ≤ m by omega)
    obtain ⟨b, rfl⟩ := Int.eq_ofNat_of_zero_le (show 0 ≤ k by omega)
    have h1 : a ≤ 12 := by omega
    have h2 : 1 ≤ b := by omega
    have h3 : b ≤ 3 := by omega
    rw [countSfR_ok h1 h2 h3]
    have CP := Lib.hid fun w => l03Count_any b a h3 h2 h1 a ⟨#[]⟩ w (Nat.zero_add a)
    clear h
    have hb : (bl (⟨#[]⟩ : ByteArray)) = [] := rfl
    rw [hb] at CP
    clear hb
    generalize (dfs b a []).length = n at *
    go_enter Try.func15, Try.ntmps15
    go_wp2_with fail
    refine (l01In_yes _ _ _ _ (by omega) (by omega)).mono ?_
    rintro e w1 ⟨rfl, b1⟩
    go_simp
    go_wp2_with fail
    refine (l01In_yes _ _ _ _ (by omega) (by omega)).mono ?_
    rintro e w2 ⟨rfl, b2⟩
    go_simp
    go_wp2_with fail
    refine (CP.out _).mono ?_
    rintro e w3 ⟨rfl, b3⟩
    go_wp2_with fail
    go_ret2
    exact ⟨rfl, (b1.then b2).then b3⟩

set_option maxRecDepth 100000 in
theorem spec_FirstSquareFree (m k : Int) (w : World) (wm : (Lit.int .i64 m).wf = true) (wk : (Lit.int .i64 k).wf = true) :
    Calls Try.prog 17 #[.int .i64 m, .int .i64 k] w fun e w' => e = .returned (.tuple #[.string (firstSfR m k).1, .int .i64 (firstSfR m k).2]) ∧ Below w.heap.size w w' := by
  by_cases h : m < 0 ∨ 30 < m ∨ k < 1 ∨ 5 < k
  · rw [firstSfR_out h]
    by_cases hm : 0 ≤ m ∧ m ≤ 30
    · have HK : Hid (¬ (1 ≤ k ∧ k ≤ 5)) := Lib.hid (by omega)
      have HM := Lib.hid hm
      clear h hm
      go_enter Try.func17, Try.ntmps17
      go_wp2_with fail
      refine (l01In_yes _ _ _ _ HM.out.1 HM.out.2).mono ?_
      rintro e w1 ⟨rfl, b1⟩
      go_simp
      go_wp2_with fail
      refine (l01In_no _ _ _ _ HK.out).mono ?_
      rintro e w2 ⟨rfl, b2⟩
      go_simp
      go_wp2_with fail
      go_ret2
      exact ⟨rfl, b1.then b2⟩
    · have HM := Lib.hid hm
      clear h hm
      go_enter Try.func17, Try.ntmps17
      go_wp2_with fail
      refine (l01In_no _ _ _ _ HM.out).mono ?_
      rintro e w1 ⟨rfl, b1⟩
      go_simp
      go_wp2_with fail
      go_ret2
      exact ⟨rfl, b1⟩
  · obtain ⟨a, rfl⟩ := Int.eq_ofNat_of_zero_le (show 0 ≤ m by omega)
    obtain ⟨b, rfl⟩ := Int.eq_ofNat_of_zero_le (show 0 ≤ k by omega)
    have h1 : a ≤ 30 := by omega
    have h2 : 1 ≤ b := by omega
    have h3 : b ≤ 5 := by omega
    have CP := Lib.hid fun w => l03Find_any b a h3 h2 h1 a ⟨#[]⟩ w (Nat.zero_add a)
    have HS := Lib.hid fun s (hs : (dfs b a []).head? = some s) => firstSfR_some h1 h2 h3 hs
    have HN := Lib.hid fun (hs : (dfs b a []).head? = none) => firstSfR_none h1 h2 h3 hs
    clear h
    have hb : (bl (⟨#[]⟩ : ByteArray)) = [] := rfl
    rw [hb] at CP
    clear hb
    generalize firstSfR (a : Int) (b : Int) = R at *
    generalize dfs b a [] = D at *
    go_enter Try.func17, Try.ntmps17
    go_wp2_with fail
    refine (l01In_yes _ _ _ _ (by omega) (by omega)).mono ?_
    rintro e w1 ⟨rfl, b1⟩
    go_simp
    go_wp2_with fail
    refine (l01In_yes _ _ _ _ (by omega) (by omega)).mono ?_
    rintro e w2 ⟨rfl, b2⟩
    go_simp
    go_wp2_with fail
    refine (CP.out _).mono ?_
    rintro e w3 ⟨s, ok, rfl, HF, b3⟩
    have B := (b1.then b2).then b3
    cases ok with
    | true =>
      have HV : Hid (R = (s, 0)) := Lib.hid (by
        rcases HF.out with ⟨_, h⟩ | ⟨h, _⟩
        · exact HS.out _ h
        · cases h)
      go_simp
      go_wp2_with fail
      go_ret2
      exact ⟨by rw [HV.out]; rfl, B⟩
    | false =>
      have HV : Hid (R = (⟨#[]⟩, 4)) := Lib.hid (by
        rcases HF.out with ⟨h, _⟩ | ⟨_, _, h⟩
        · cases h
        · exact HN.out (by rw [h]; rfl))
      go_simp
      go_wp2_with fail
      go_ret2
      exact ⟨by rw [HV.out]; rfl, B⟩

end Go.Proofs.Ytinanajagkilaab
