/- Abelian powers: the functions, the program's and the model's. -/
import Derived.Test.YtolboinemechpaaAbI
import Derived.Test.YtolboinemechpaaAbS
namespace Go.Proofs.Ytolboinemechpaa
set_option linter.unusedVariables false
set_option linter.unusedSimpArgs false
open Go.RowKit Go.Shelf

theorem ret_pair {a b : Bool} {c : Int} (h : a = b) : Ending.returned (.tuple #[.bool a, .int .i64 c]) = .returned (.tuple #[.bool b, .int .i64 c]) := by rw [h]
theorem len_zero (L : List (List Int)) : ((L.length : Int) == 0) = (decide ((0 : Int) = 0) && decide (L.length = 0)) := by
  rw [Bool.eq_iff_iff]
  simp
theorem len_none (L : List (List Int)) {c : Int} (h : ¬ c = 0) : false = (decide (c = 0) && decide (L.length = 0)) := by simp [h]

theorem pairsA_any (x : ByteArray) (k : Nat) (w0 w : World) (h : IsW x) (hk1 : 2 ≤ k) (hk2 : k ≤ 60)
    (hw : w = (w0.alloc (.cells #[.string x] 9)).alloc (.cells #[.int .i64 (k : Int)] 2)) :
    Calls Try.prog 68 #[.func (.func 90) #[] #[.pointer (some ⟨w0.heap.size, 0, none⟩), .pointer (some ⟨w0.heap.size + 1, 0, none⟩)]] w fun e w' =>
      ∃ v, e = .returned v ∧ OwnR w' w0.heap.size v (rowsN (aps (bl x) k)) ∧ Below w0.heap.size w0 w' := by
  subst hw
  have c1 : Boxed ((w0.alloc (.cells #[.string x] 9)).alloc (.cells #[.int .i64 (k : Int)] 2)) w0.heap.size 9 (.string x) := (Boxed.new w0 _ _).alloc _
  have c2 : Boxed ((w0.alloc (.cells #[.string x] 9)).alloc (.cells #[.int .i64 (k : Int)] 2)) (w0.heap.size + 1) 2 (.int .i64 (k : Int)) := by
    have := Boxed.new (w0.alloc (.cells #[.string x] 9)) 2 (.int .i64 (k : Int))
    rw [World.size_alloc] at this
    exact this
  refine (callsIn_wide.1 (pairsA_in _ _ x k _ h hk1 hk2 c1 c2)).mono ?_
  rintro e w' ⟨v, rfl, o, b⟩
  have hb : Below w0.heap.size w0 ((w0.alloc (.cells #[.string x] 9)).alloc (.cells #[.int .i64 (k : Int)] 2)) := (Below.new _ _).alloc (by simp) _
  exact ⟨v, rfl, o.base hb.size, hb.then b⟩

set_option maxRecDepth 100000 in
theorem impl_AbelianPowers (x : ByteArray) (k : Int) (w : World) (sx : x.size ≤ maxLen) (wk : (Lit.int .i64 k).wf = true) :
    Calls Try.prog 35 #[.string x, .int .i64 k] w (RetR (apsR x k).1 (apsR x k).2 w) := by
  by_cases h : IsW x
  · by_cases hk : k < 2 ∨ 60 < k
    · rw [apsR_out h hk]
      have H := Lib.hid h
      clear h
      rcases (show k < 2 ∨ (2 ≤ k ∧ 60 < k) by omega) with h2 | ⟨h2, h3⟩
      all_goals
        clear hk
        go_enter Try.func35, Try.ntmps35
        go_wp2_with fail
        refine (isWord_yes x _ H.out).mono ?_
        rintro e w1 ⟨rfl, b1⟩
        go_wp2_with fail
        go_ret2
        exact ⟨_, rfl, OwnR.nil _ _, b1⟩
    · obtain ⟨n, rfl⟩ := Int.eq_ofNat_of_zero_le (show 0 ≤ k by omega)
      rw [apsR_ok h hk]
      have n1 : 2 ≤ n := by omega
      have n2 : n ≤ 60 := by omega
      have H := Lib.hid h
      clear h hk
      go_enter Try.func35, Try.ntmps35
      go_wp2_with fail
      refine (isWord_yes x _ H.out).mono ?_
      rintro e w1 ⟨rfl, b1⟩
      go_wp2_with fail
      refine (callsIn_wide.1 (abelianPowersIn_in 4 x n _)).mono ?_
      rintro e w2 ⟨rfl, hw2⟩
      have HW2 := Lib.hid hw2
      clear hw2
      go_wp2_with fail
      refine (pairsA_any x n w1 w2 H.out n1 n2 HW2.out).mono ?_
      rintro e w3 ⟨v, rfl, o3, b3⟩
      go_wp2_with fail
      go_ret2
      exact ⟨_, rfl, o3.base b1.size, b1.then b3⟩
  · rw [apsR_bad h]
    have H := Lib.hid h
    clear h
    go_enter Try.func35, Try.ntmps35
    go_wp2_with fail
    refine (isWord_not x _ sx H.out).mono ?_
    rintro e w1 ⟨rfl, b1⟩
    go_wp2_with fail
    go_ret2
    exact ⟨_, rfl, OwnR.nil _ _, b1⟩

set_option maxRecDepth 100000 in
theorem impl_AbelianSquares (x : ByteArray) (w : World) (sx : x.size ≤ maxLen) :
    Calls Try.prog 30 #[.string x] w (RetR (asqR x).1 (asqR x).2 w) := by
  have CP := Lib.hid fun w => impl_AbelianPowers x 2 w sx (by decide)
  unfold asqR
  generalize apsR x 2 = R at *
  go_enter Try.func30, Try.ntmps30
  go_wp2_with fail
  refine (CP.out _).mono ?_
  rintro e w1 ⟨v, rfl, o1, b1⟩
  go_wp2_with fail
  go_ret2
  exact ⟨_, rfl, o1, b1⟩

set_option maxRecDepth 100000 in
theorem impl_IsAbelianFree (x : ByteArray) (k : Int) (w : World) (sx : x.size ≤ maxLen) (wk : (Lit.int .i64 k).wf = true) :
    Calls Try.prog 37 #[.string x, .int .i64 k] w fun e w' => e = .returned (.tuple #[.bool (apfR x k).1, .int .i64 (apfR x k).2]) ∧ Below w.heap.size w w' := by
  unfold apfR
  have CP := Lib.hid fun w => impl_AbelianPowers x k w sx wk
  generalize apsR x k = R at *
  obtain ⟨L, c⟩ := R
  go_enter Try.func37, Try.ntmps37
  go_wp2_with fail
  refine (CP.out _).mono ?_
  rintro e w1 ⟨v, rfl, o1, b1⟩
  obtain ⟨a, cp, rfl⟩ := o1.value
  clear o1
  by_cases hc : c = 0
  · subst hc
    go_wp2_with fail
    go_ret2
    exact ⟨ret_pair (by rw [Bool.eq_iff_iff]; simp), b1⟩
  · go_wp2_with fail
    go_ret2
    exact ⟨ret_pair (by first | rfl | simp [hc]), b1⟩

set_option maxRecDepth 100000 in
theorem l07Code_any (x : ByteArray) (k : Int) (w : World) (sx : x.size ≤ maxLen) :
    Calls Try.prog 67 #[.string x, .int .i64 k] w fun e w' => e = .returned (.int .i64 (apsR x k).2) ∧ Below w.heap.size w w' := by
  by_cases h : IsW x
  · by_cases hk : k < 2 ∨ 60 < k
    · rw [apsR_out h hk]
      have H := Lib.hid h
      clear h
      go_enter Try.func67, Try.ntmps67
      go_wp2_with fail
      refine (l01Is_yes x _ H.out).mono ?_
      rintro e w1 ⟨rfl, b1⟩
      go_wp2_with fail
      refine (l01In_no _ _ _ _ (by omega)).mono ?_
      rintro e w2 ⟨rfl, b2⟩
      go_wp2_with fail
      go_ret
      exact ⟨rfl, b1.then b2⟩
    · obtain ⟨n, rfl⟩ := Int.eq_ofNat_of_zero_le (show 0 ≤ k by omega)
      rw [apsR_ok h hk]
      have H := Lib.hid h
      clear h
      go_enter Try.func67, Try.ntmps67
      go_wp2_with fail
      refine (l01Is_yes x _ H.out).mono ?_
      rintro e w1 ⟨rfl, b1⟩
      go_wp2_with fail
      refine (l01In_yes _ _ _ _ (by omega) (by omega)).mono ?_
      rintro e w2 ⟨rfl, b2⟩
      go_wp2_with fail
      go_ret
      exact ⟨rfl, b1.then b2⟩
  · rw [apsR_bad h]
    have H := Lib.hid h
    clear h
    go_enter Try.func67, Try.ntmps67
    go_wp2_with fail
    refine (l01Is_no x _ sx H.out).mono ?_
    rintro e w1 ⟨rfl, b1⟩
    go_wp2_with fail
    go_ret
    exact ⟨rfl, b1⟩

/-- With the code 0 the model's list is made of a word and a number in the range. -/
theorem apsR_code {x : ByteArray} {k : Int} : ((apsR x k).2 = 0 ∧ ∃ n : Nat, k = n ∧ IsW x ∧ 2 ≤ n ∧ n ≤ 60 ∧ (apsR x k).1 = rowsN (aps (bl x) n)) ∨ (¬ (apsR x k).2 = 0 ∧ (apsR x k).1 = []) := by
  by_cases h : IsW x
  · by_cases hk : k < 2 ∨ 60 < k
    · rw [apsR_out h hk]; exact .inr ⟨by decide, rfl⟩
    · obtain ⟨n, rfl⟩ := Int.eq_ofNat_of_zero_le (show 0 ≤ k by omega)
      rw [apsR_ok h hk]
      exact .inl ⟨rfl, n, rfl, h, by omega, by omega, rfl⟩
  · rw [apsR_bad h]; exact .inr ⟨by decide, rfl⟩

set_option maxRecDepth 100000 in
theorem spec_AbelianPowers (x : ByteArray) (k : Int) (w : World) (sx : x.size ≤ maxLen) (wk : (Lit.int .i64 k).wf = true) :
    Calls Try.prog 34 #[.string x, .int .i64 k] w (RetR (apsR x k).1 (apsR x k).2 w) := by
  have CC := Lib.hid fun W => l07Code_any x k W sx
  rcases apsR_code (x := x) (k := k) with ⟨h0, n, rfl, hw, n1, n2, hl⟩ | ⟨h0, hl⟩
  · rw [h0] at CC ⊢
    rw [hl]
    have PW := Lib.hid fun W => l07Powers_any x n W hw n1 n2
    clear h0 hl hw
    go_enter Try.func34, Try.ntmps34
    go_wp2_with fail
    refine (CC.out _).mono ?_
    rintro e w1 ⟨rfl, b1⟩
    go_wp2_with fail
    refine (PW.out _).mono ?_
    rintro e w2 ⟨v, rfl, o2, b2⟩
    go_wp2_with fail
    go_ret2
    exact ⟨_, rfl, o2.base b1.size, b1.then b2⟩
  · rw [hl]
    generalize (apsR x k).2 = c at *
    clear hl
    go_enter Try.func34, Try.ntmps34
    go_wp2_with fail
    refine (CC.out _).mono ?_
    rintro e w1 ⟨rfl, b1⟩
    go_wp2_with fail
    go_ret2
    exact ⟨_, rfl, OwnR.nil _ _, b1⟩

set_option maxRecDepth 100000 in
theorem spec_IsAbelianFree (x : ByteArray) (k : Int) (w : World) (sx : x.size ≤ maxLen) (wk : (Lit.int .i64 k).wf = true) :
    Calls Try.prog 36 #[.string x, .int .i64 k] w fun e w' => e = .returned (.tuple #[.bool (apfR x k).1, .int .i64 (apfR x k).2]) ∧ Below w.heap.size w w' := by
  have CC := Lib.hid fun W => l07Code_any x k W sx
  unfold apfR
  rcases apsR_code (x := x) (k := k) with ⟨h0, n, rfl, hw, n1, n2, hl⟩ | ⟨h0, hl⟩
  · rw [h0] at CC ⊢
    rw [hl]
    have PW := Lib.hid fun W => l07Powers_any x n W hw n1 n2
    generalize rowsN (aps (bl x) n) = L at *
    clear h0 hl hw
    go_enter Try.func36, Try.ntmps36
    go_wp2_with fail
    refine (CC.out _).mono ?_
    rintro e w1 ⟨rfl, b1⟩
    go_wp2_with fail
    refine (PW.out _).mono ?_
    rintro e w2 ⟨v, rfl, o2, b2⟩
    obtain ⟨a, cp, rfl⟩ := o2.value
    clear o2
    go_wp2_with fail
    go_ret2
    exact ⟨ret_pair (by rw [Bool.eq_iff_iff]; simp), b1.then b2⟩
  · rw [hl]
    generalize (apsR x k).2 = c at *
    clear hl
    go_enter Try.func36, Try.ntmps36
    go_wp2_with fail
    refine (CC.out _).mono ?_
    rintro e w1 ⟨rfl, b1⟩
    go_wp2_with fail
    go_ret2
    exact ⟨ret_pair (by first | rfl | simp [h0]), b1⟩

set_option maxRecDepth 100000 in
theorem spec_AbelianSquares (x : ByteArray) (w : World) (sx : x.size ≤ maxLen) :
    Calls Try.prog 29 #[.string x] w (RetR (asqR x).1 (asqR x).2 w) := by
  unfold asqR
  by_cases h : IsW x
  · rw [show (2 : Int) = ((2 : Nat) : Int) from rfl, apsR_ok (k := 2) h (by omega)]
    have H := Lib.hid h
    have PW := Lib.hid fun W => l07Powers_any x 2 W h (by omega) (by omega)
    clear h
    go_enter Try.func29, Try.ntmps29
    go_wp2_with fail
    refine (l01Is_yes x _ H.out).mono ?_
    rintro e w1 ⟨rfl, b1⟩
    go_wp2_with fail
    refine (PW.out _).mono ?_
    rintro e w2 ⟨v, rfl, o2, b2⟩
    go_wp2_with fail
    go_ret2
    exact ⟨_, rfl, o2.base b1.size, b1.then b2⟩
  · rw [apsR_bad h]
    have H := Lib.hid h
    clear h
    go_enter Try.func29, Try.ntmps29
    go_wp2_with fail
    refine (l01Is_no x _ sx H.out).mono ?_
    rintro e w1 ⟨rfl, b1⟩
    go_wp2_with fail
    go_ret2
    exact ⟨_, rfl, OwnR.nil _ _, b1⟩

theorem apsR_len (x : ByteArray) (k : Int) : (apsR x k).1.length ≤ 3600 := by
  rcases apsR_code (x := x) (k := k) with ⟨_, n, rfl, hw, n1, n2, hl⟩ | ⟨_, hl⟩
  · rw [hl, rowsN_len]; exact aps_short _ hw.size
  · rw [hl]; decide
theorem apsR_tot (x : ByteArray) (k : Int) : totR (apsR x k).1 ≤ 7200 := by
  rcases apsR_code (x := x) (k := k) with ⟨_, n, rfl, hw, n1, n2, hl⟩ | ⟨_, hl⟩
  · rw [hl, rowsN_tot]
    have : (aps (bl x) n).length ≤ 3600 := aps_short _ hw.size
    omega
  · rw [hl]; decide
theorem asqR_len (x : ByteArray) : (asqR x).1.length ≤ 3600 := apsR_len x 2
theorem asqR_tot (x : ByteArray) : totR (asqR x).1 ≤ 7200 := apsR_tot x 2

end Go.Proofs.Ytolboinemechpaa
