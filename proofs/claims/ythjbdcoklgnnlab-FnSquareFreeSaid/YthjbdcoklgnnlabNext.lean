/- The letters with which a square free word goes on: the program and the model. -/
import Derived.Test.YthjbdcoklgnnlabSq
import Derived.Test.YthjbdcoklgnnlabNextPlain
import Derived.Test.YthjbdcoklgnnlabLetter
namespace Go.Proofs.Ythjbdcoklgnnlab
set_option linter.unusedVariables false
set_option linter.unusedSimpArgs false
open Go.RowKit

set_option maxRecDepth 100000 in
theorem letterOf_w (n : Int) (w : World) (h0 : 0 ≤ n) (h4 : n ≤ 4) :
    Calls Try.prog 100 #[.int .i64 n] w fun e w' => e = .returned (.int .i32 (97 + n)) ∧ w = w' := by
  go_enter Try.func100, Try.ntmps100
  go_wp2
  go_ret
  exact ⟨rfl, rfl⟩

/-- Whether a square is at the end of a text that is not empty. -/
theorem l03First_end (y : ByteArray) (z : Int) (w : World) (hy : y.size ≤ 61) (h0 : 0 < y.size) (hz : z = (y.size : Int)) :
    Calls Try.prog 102 #[.string y, .int .i64 z] w fun e w' => ∃ a b : Int, e = .returned (.tuple #[.int .i64 a, .int .i64 b, .bool (decide (¬ sa (bl y) y.size = 0))]) ∧ Below w.heap.size w w' := by
  subst hz
  have hd : decide (¬ (fsF (bl y) (max y.size 2) (y.size + 1 - max y.size 2)).2 = 0) = decide (¬ sa (bl y) y.size = 0) := by
    by_cases h1 : y.size = 1
    · have h2 := sa_low (l := bl y) (e := y.size) (by omega)
      rw [h2, h1]
      rfl
    · rw [show max y.size 2 = y.size by omega, show y.size + 1 - y.size = 0 + 1 by omega]
      by_cases h2 : sa (bl y) y.size = 0
      · rw [fsF_miss h2, h2]; rfl
      · rw [fsF_hit h2]
  refine (l03First_any y y.size (max y.size 2) w hy hy (by omega)).mono ?_
  rintro e w1 ⟨rfl, b1⟩
  exact ⟨_, _, by rw [hd], b1⟩

set_option maxRecDepth 100000 in
set_option maxHeartbeats 2000000 in
theorem impl_LettersNext (x : ByteArray) (k : Int) (w : World) (sx : x.size ≤ maxLen) (wk : (Lit.int .i64 k).wf = true) :
    Calls Try.prog 19 #[.string x, .int .i64 k] w (RetI (nextR x k).1 (nextR x k).2 w) := by
  obtain ⟨i0, hi, hz0, hz1, hz2⟩ := info_parts infoI64
  by_cases h : IsW x
  · have h1 := h.size
    have H := Lib.hid h
    by_cases hk : k < 1 ∨ 5 < k
    · rw [nextR_out h hk]
      clear h
      rcases (show k < 1 ∨ (1 ≤ k ∧ 5 < k) by omega) with h2 | ⟨h2, h3⟩
      all_goals
        clear hk
        go_enter Try.func19, Try.ntmps19
        go_wp2_with fail
        refine (isWord_yes x _ H.out).mono ?_
        rintro e w1 ⟨rfl, b1⟩
        go_wp2_with fail
        go_ret2
        exact ⟨_, rfl, OwnI.nil _ _, b1⟩
    · have CP := fun w => isSquareFree_any x w h1
      obtain ⟨n, rfl⟩ := Int.eq_ofNat_of_zero_le (show 0 ≤ k by omega)
      have n1 : 1 ≤ n := by omega
      have n5 : n ≤ 5 := by omega
      by_cases h0 : (fs (bl x)).2 = 0
      · rw [show decide ((fs (bl x)).2 = 0) = true from decide_eq_true h0] at CP
        have CP2 := Lib.hid CP
        by_cases hf : x.size = 60
        · rw [nextR_full h hk h0 hf]
          have hf2 : (60 : Int) < (x.size : Int) + 1 := by omega
          have hf3 : 60 ≤ x.size := by omega
          clear h hk h0 CP hf
          go_enter Try.func19, Try.ntmps19
          go_wp2_with fail
          refine (isWord_yes x _ H.out).mono ?_
          rintro e w1 ⟨rfl, b1⟩
          go_wp2_with fail
          refine (CP2.out _).mono ?_
          rintro e w2 ⟨rfl, b2⟩
          have B2 := b1.then b2
          clear b1 b2
          go_wp2_with fail
          go_loopw [6, 22] (fun v i wr => ∃ c : Nat, c ≤ n ∧ i = .int .i64 (c : Int) ∧ v = .slice none 0 0 ∧ Below w.heap.size w wr) (fun _ i _ => n + 1 - (intOf i).toNat)
          case atStart => exact ⟨0, Nat.zero_le _, rfl, rfl, B2⟩
          case round =>
            clear B2
            obtain ⟨c, hc, rfl, rfl, hB⟩ := hrel
            by_cases hp : c < n
            · have henc := encode_letter c (by omega)
              have HEN := Lib.hid henc
              have hsz := size_lt1 x c
              have HSZ := Lib.hid hsz
              have e1 := lt1_size c
              have e4 : (lt1 c).size ≤ 1 := by omega
              have hsum : ∀ W, (Op.stringOp .add x (lt1 c)).run Try.prog W = .ok (.string (x ++ lt1 c)) W := fun W => run_string_add_sum W _ _ (by rw [lt1_size]; omega)
              have e2 : 60 < (x ++ lt1 c).size := by omega
              clear hsz henc e1
              generalize lt1 c = t at *
              generalize x ++ t = y at *
              go_wp2_with fail
              refine (letterOf_w c _ (by omega) (by omega)).mono ?_
              rintro e w3 ⟨rfl, rfl⟩
              have hcv : (convert 21 9 (.int .i32 (97 + (c : Int)))).run Try.prog wr = .ok (.string t) wr := by
                rw [run_convert_int_string wr _ _ _ _ (by rw [Try.underlying21]; rfl) Try.underlying9, HEN.out]
              have e3 : ¬ (y.size : Int) ≤ 60 := by omega
              go_simp
              go_wp2_with fail
              go_roundw
              case rel => exact ⟨c + 1, by omega, by go_num, rfl, hB⟩
              case measure => simp [intOf]; omega
            · go_wp2
              go_ret2
              exact ⟨_, rfl, OwnI.nil _ _, hB⟩
        · rw [nextR_ok h hk h0 hf]
          have hx : x.size < 60 := by omega
          clear h hk h0 CP hf
          go_enter Try.func19, Try.ntmps19
          go_wp2_with fail
          refine (isWord_yes x _ H.out).mono ?_
          rintro e w1 ⟨rfl, b1⟩
          go_wp2_with fail
          refine (CP2.out _).mono ?_
          rintro e w2 ⟨rfl, b2⟩
          have B2 := b1.then b2
          clear b1 b2
          go_wp2_with fail
          go_loopw [6, 22] (fun v i wr => ∃ c : Nat, c ≤ n ∧ i = .int .i64 (c : Int) ∧ OwnI wr w.heap.size v (nextL (bl x) c) ∧ Below w.heap.size w wr) (fun _ i _ => n + 1 - (intOf i).toNat)
          case atStart => exact ⟨0, Nat.zero_le _, rfl, OwnI.nil _ _, B2⟩
          case round =>
            clear B2
            obtain ⟨c, hc, rfl, hown, hB⟩ := hrel
            have hbz := hB.size
            have hlen := nextL_len (bl x) c
            by_cases hp : c < n
            · have henc := encode_letter c (by omega)
              have HEN := Lib.hid henc
              have hsz := size_lt1 x c
              have HSZ := Lib.hid hsz
              have e1 := lt1_size c
              have e4 : (lt1 c).size ≤ 1 := by omega
              have hsum : ∀ W, (Op.stringOp .add x (lt1 c)).run Try.prog W = .ok (.string (x ++ lt1 c)) W := fun W => run_string_add_sum W _ _ (by rw [lt1_size]; omega)
              have e2 : (x ++ lt1 c).size ≤ 60 := by omega
              have CS := fun w => squareAtEnd_any (x ++ lt1 c) w (by omega)
              rw [bl_lt1, hsz] at CS
              have CS2 := Lib.hid CS
              clear hsz henc e1 CS
              generalize lt1 c = t at *
              generalize x ++ t = y at *
              by_cases he : sa (bl x ++ [letB (c : Int)]) (x.size + 1) = 0
              · have HS := Lib.hid (nextL_hit (bl x) c he)
                rw [he] at CS2
                clear he
                generalize nextL (bl x) c = L at hown hlen HS
                go_wp2_with fail
                refine (letterOf_w c _ (by omega) (by omega)).mono ?_
                rintro e w3 ⟨rfl, rfl⟩
                have hcv : (convert 21 9 (.int .i32 (97 + (c : Int)))).run Try.prog wr = .ok (.string t) wr := by
                  rw [run_convert_int_string wr _ _ _ _ (by rw [Try.underlying21]; rfl) Try.underlying9, HEN.out]
                have e3 : (y.size : Int) ≤ 60 := by omega
                go_simp
                go_wp2_with fail
                refine (CS2.out _).mono ?_
                rintro e w4 ⟨rfl, b4⟩
                have hown2 := hown.below b4
                have hB2 := hB.then b4
                have hbz2 := hB2.size
                clear hown hB hbz b4
                go_simp
                go_wp2_with (at_builtin; refine wpList_append_own _ rfl _ _ 34 rfl w.heap.size 2 i0 (.int .i64 0) 1 8 Try.underlying34 hi hz0 hz1 hz2 rfl (by decide) _ _ _ rfl (hown2.alloc _) ⟨_, 0, none⟩ 1 1 [.int .i64 (c : Int)] rfl rfl (cell_new _ _ _) (by intro u hu; simp at hu; subst hu; rfl) (by unfold maxLen; omega) (by omega) (by simp; omega) ?_; intro v' w3 hown' hgrow _)
                go_roundw
                case rel =>
                  refine ⟨c + 1, by omega, by go_num, ?_, ?_⟩
                  · unfold OwnI; rw [HS.out, List.length_append, ← map_snoc]; exact hown'
                  · exact (hB2.alloc hbz2 _).grown hgrow (by simp; omega) (fun q hq => (hown2.lt q hq).1)
                case measure => simp [intOf]; omega
              · have HS := Lib.hid (nextL_miss (bl x) c he)
                have he2 : (((sa (bl x ++ [letB (c : Int)]) (x.size + 1) : Nat) : Int) == 0) = false := by rw [beq_eq_false_iff_ne]; omega
                clear he
                generalize sa (bl x ++ [letB (c : Int)]) (x.size + 1) = s at *
                go_wp2_with fail
                refine (letterOf_w c _ (by omega) (by omega)).mono ?_
                rintro e w3 ⟨rfl, rfl⟩
                have hcv : (convert 21 9 (.int .i32 (97 + (c : Int)))).run Try.prog wr = .ok (.string t) wr := by
                  rw [run_convert_int_string wr _ _ _ _ (by rw [Try.underlying21]; rfl) Try.underlying9, HEN.out]
                have e3 : (y.size : Int) ≤ 60 := by omega
                go_simp
                go_wp2_with fail
                refine (CS2.out _).mono ?_
                rintro e w4 ⟨rfl, b4⟩
                have hown2 := hown.below b4
                have hB2 := hB.then b4
                clear hown hB hbz b4
                go_simp
                go_wp2_with fail
                go_roundw
                case rel => exact ⟨c + 1, by omega, by go_num, by rw [HS.out]; exact hown2, hB2⟩
                case measure => simp [intOf]; omega
            · obtain rfl : c = n := by omega
              have HO := Lib.hid hown
              clear hown
              go_wp2
              go_ret2
              exact ⟨_, rfl, HO.out, hB⟩
      · rw [nextR_not h hk h0]
        rw [show decide ((fs (bl x)).2 = 0) = false from decide_eq_false h0] at CP
        have CP2 := Lib.hid CP
        clear h hk h0 CP
        go_enter Try.func19, Try.ntmps19
        go_wp2_with fail
        refine (isWord_yes x _ H.out).mono ?_
        rintro e w1 ⟨rfl, b1⟩
        go_wp2_with fail
        refine (CP2.out _).mono ?_
        rintro e w2 ⟨rfl, b2⟩
        go_wp2_with fail
        go_ret2
        exact ⟨_, rfl, OwnI.nil _ _, b1.then b2⟩
  · rw [nextR_bad h]
    have H := Lib.hid h
    clear h
    go_enter Try.func19, Try.ntmps19
    go_wp2_with fail
    refine (isWord_not x _ sx H.out).mono ?_
    rintro e w1 ⟨rfl, b1⟩
    go_wp2_with fail
    go_ret2
    exact ⟨_, rfl, OwnI.nil _ _, b1⟩

set_option maxRecDepth 100000 in
set_option maxHeartbeats 2000000 in
theorem spec_LettersNext (x : ByteArray) (k : Int) (w : World) (sx : x.size ≤ maxLen) (wk : (Lit.int .i64 k).wf = true) :
    Calls Try.prog 20 #[.string x, .int .i64 k] w (RetI (nextR x k).1 (nextR x k).2 w) := by
  obtain ⟨i0, hi, hz0, hz1, hz2⟩ := info_parts infoI64
  by_cases h : IsW x
  · have h1 := h.size
    have H := Lib.hid h
    by_cases hk : k < 1 ∨ 5 < k
    · rw [nextR_out h hk]
      have HK := Lib.hid hk
      clear h hk
      go_enter Try.func20, Try.ntmps20
      go_wp2_with fail
      refine (l01Is_yes x _ H.out).mono ?_
      rintro e w1 ⟨rfl, b1⟩
      go_wp2_with fail
      refine (l01In_no _ _ _ _ (by have := HK.out; omega)).mono ?_
      rintro e w2 ⟨rfl, b2⟩
      go_wp2_with fail
      go_ret2
      exact ⟨_, rfl, OwnI.nil _ _, b1.then b2⟩
    · have CP := fun w => l03First_zero x w h1
      obtain ⟨n, rfl⟩ := Int.eq_ofNat_of_zero_le (show 0 ≤ k by omega)
      have n1 : 1 ≤ n := by omega
      have n5 : n ≤ 5 := by omega
      by_cases h0 : (fs (bl x)).2 = 0
      · rw [fs_zero h0] at CP
        have CP2 := Lib.hid CP
        by_cases hf : x.size = 60
        · rw [nextR_full h hk h0 hf]
          have hf3 : ¬ (x.size : Int) < 60 := by omega
          have hf4 : (0 : Int) < (n : Int) := by omega
          clear h hk h0 CP hf
          go_enter Try.func20, Try.ntmps20
          go_wp2_with fail
          refine (l01Is_yes x _ H.out).mono ?_
          rintro e w1 ⟨rfl, b1⟩
          go_wp2_with fail
          refine (l01In_yes _ _ _ _ (by omega) (by omega)).mono ?_
          rintro e w2 ⟨rfl, b2⟩
          go_wp2_with fail
          refine (CP2.out _).mono ?_
          rintro e w3 ⟨rfl, b3⟩
          have B3 := (b1.then b2).then b3
          go_simp
          go_wp2_with fail
          refine wp_loop_rounds 1 ?_
          rw [rounds_succ]
          go_wp2
          go_ret2
          exact ⟨_, rfl, OwnI.lit0 w3 B3.size, B3.alloc B3.size _⟩
        · rw [nextR_ok h hk h0 hf]
          have hx : x.size < 60 := by omega
          have hxi : (x.size : Int) < 60 := by omega
          clear h hk h0 CP hf
          go_enter Try.func20, Try.ntmps20
          go_wp2_with fail
          refine (l01Is_yes x _ H.out).mono ?_
          rintro e w1 ⟨rfl, b1⟩
          go_wp2_with fail
          refine (l01In_yes _ _ _ _ (by omega) (by omega)).mono ?_
          rintro e w2 ⟨rfl, b2⟩
          go_wp2_with fail
          refine (CP2.out _).mono ?_
          rintro e w3 ⟨rfl, b3⟩
          have B3 := (b1.then b2).then b3
          clear b1 b2 b3
          go_simp
          go_wp2_with fail
          go_loopw [9, 10] (fun v i wr => ∃ c : Nat, c ≤ n ∧ i = .int .i64 (c : Int) ∧ OwnI wr w.heap.size v (nextL (bl x) c) ∧ Below w.heap.size w wr) (fun _ i _ => n + 1 - (intOf i).toNat)
          case atStart => exact ⟨0, Nat.zero_le _, rfl, OwnI.lit0 w3 B3.size, B3.alloc B3.size _⟩
          case round =>
            clear B3
            obtain ⟨c, hc, rfl, hown, hB⟩ := hrel
            have hbz := hB.size
            have hlen := nextL_len (bl x) c
            by_cases hp : c < n
            · have hpi : (c : Int) < (n : Int) := by omega
              have hsz := size_lt1 x c
              have e1 := lt1_size c
              have LT := Lib.hid (show (⟨#[letB (c : Int)]⟩ : ByteArray) = lt1 c from rfl)
              have e4 : (lt1 c).size ≤ 1 := by omega
              have hsum : ∀ W, (Op.stringOp .add x (lt1 c)).run Try.prog W = .ok (.string (x ++ lt1 c)) W := fun W => run_string_add_sum W _ _ (by rw [lt1_size]; omega)
              have e2 : (x ++ lt1 c).size ≤ 60 := by omega
              have CS := fun w => l03First_end (x ++ lt1 c) ((x ++ lt1 c).size : Int) w (by omega) (by omega) rfl
              rw [bl_lt1] at CS
              by_cases he : sa (bl x ++ [letB (c : Int)]) (x.size + 1) = 0
              · have HS := Lib.hid (nextL_hit (bl x) c he)
                have he0 : decide (¬ sa (bl x ++ [letB (c : Int)]) (x ++ lt1 c).size = 0) = false := by rw [hsz, he]; rfl
                rw [he0] at CS
                have CS2 := Lib.hid CS
                clear he he0 CS hsz e1
                generalize nextL (bl x) c = L at hown hlen HS
                generalize lt1 c = t at *
                generalize x ++ t = y at *
                go_wp2_with fail
                refine (l01Letter_any c _ (by omega) (by omega)).mono ?_
                rintro e w4 ⟨rfl, b4⟩
                rw [LT.out]
                go_simp
                go_wp2_with fail
                refine (CS2.out _).mono ?_
                rintro e w5 ⟨a, b, rfl, b5⟩
                have hown2 := (hown.below b4).below b5
                have hB2 := (hB.then b4).then b5
                have hbz2 := hB2.size
                clear hown hB hbz b4 b5
                go_simp
                go_wp2_with (at_builtin; refine wpList_append_own _ rfl _ _ 34 rfl w.heap.size 2 i0 (.int .i64 0) 1 8 Try.underlying34 hi hz0 hz1 hz2 rfl (by decide) _ _ _ rfl (hown2.alloc _) ⟨_, 0, none⟩ 1 1 [.int .i64 (c : Int)] rfl rfl (cell_new _ _ _) (by intro u hu; simp at hu; subst hu; rfl) (by unfold maxLen; omega) (by omega) (by simp; omega) ?_; intro v' w3 hown' hgrow _)
                go_roundw
                case rel =>
                  refine ⟨c + 1, by omega, by go_num, ?_, ?_⟩
                  · unfold OwnI; rw [HS.out, List.length_append, ← map_snoc]; exact hown'
                  · exact (hB2.alloc hbz2 _).grown hgrow (by simp; omega) (fun q hq => (hown2.lt q hq).1)
                case measure => simp [intOf]; omega
              · have HS := Lib.hid (nextL_miss (bl x) c he)
                have he0 : decide (¬ sa (bl x ++ [letB (c : Int)]) (x ++ lt1 c).size = 0) = true := by rw [hsz]; exact decide_eq_true he
                rw [he0] at CS
                have CS2 := Lib.hid CS
                clear he he0 CS hsz e1
                generalize lt1 c = t at *
                generalize x ++ t = y at *
                go_wp2_with fail
                refine (l01Letter_any c _ (by omega) (by omega)).mono ?_
                rintro e w4 ⟨rfl, b4⟩
                rw [LT.out]
                go_simp
                go_wp2_with fail
                refine (CS2.out _).mono ?_
                rintro e w5 ⟨a, b, rfl, b5⟩
                have hown2 := (hown.below b4).below b5
                have hB2 := (hB.then b4).then b5
                clear hown hB hbz b4 b5
                go_simp
                go_wp2_with fail
                go_roundw
                case rel => exact ⟨c + 1, by omega, by go_num, by rw [HS.out]; exact hown2, hB2⟩
                case measure => simp [intOf]; omega
            · have hpi : ¬ (c : Int) < (n : Int) := by omega
              have hcn : Hid (c = n) := Lib.hid (by omega)
              have HO := Lib.hid hown
              clear hown
              go_wp2
              go_ret2
              rw [← hcn.out]
              exact ⟨_, rfl, HO.out, hB⟩
      · rw [nextR_not h hk h0]
        have hd : decide (¬ (fs (bl x)).2 = 0) = true := decide_eq_true h0
        rw [hd] at CP
        have CP2 := Lib.hid CP
        clear h hk h0 hd CP
        go_enter Try.func20, Try.ntmps20
        go_wp2_with fail
        refine (l01Is_yes x _ H.out).mono ?_
        rintro e w1 ⟨rfl, b1⟩
        go_wp2_with fail
        refine (l01In_yes _ _ _ _ (by omega) (by omega)).mono ?_
        rintro e w2 ⟨rfl, b2⟩
        go_wp2_with fail
        refine (CP2.out _).mono ?_
        rintro e w3 ⟨rfl, b3⟩
        go_simp
        go_wp2_with fail
        go_ret2
        exact ⟨_, rfl, OwnI.nil _ _, (b1.then b2).then b3⟩
  · rw [nextR_bad h]
    have H := Lib.hid h
    clear h
    go_enter Try.func20, Try.ntmps20
    go_wp2_with fail
    refine (l01Is_no x _ sx H.out).mono ?_
    rintro e w1 ⟨rfl, b1⟩
    go_wp2_with fail
    go_ret2
    exact ⟨_, rfl, OwnI.nil _ _, b1⟩

end Go.Proofs.Ythjbdcoklgnnlab
