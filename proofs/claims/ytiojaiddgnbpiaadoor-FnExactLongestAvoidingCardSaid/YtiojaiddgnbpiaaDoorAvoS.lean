/- The words that avoid a pattern: the models. -/
import Derived.Test.YtiojaiddgnbpiaaDoorAvoL
import Derived.Test.YtiojaiddgnbpiaaDoorLetter
namespace Go.Proofs.YtiojaiddgnbpiaaDoor
set_option linter.unusedVariables false
set_option linter.unusedSimpArgs false
open Go.RowKit

set_option maxRecDepth 100000 in
theorem l01In_av (x lo hi : Int) (w : World) : Calls Tryd.prog 103 #[.int .i64 x, .int .i64 lo, .int .i64 hi] w fun e w' => e = .returned (.bool (decide (lo ≤ x ∧ x ≤ hi))) ∧ w = w' := by
  by_cases h1 : lo ≤ x
  · by_cases h2 : x ≤ hi
    · go_enter Tryd.func103, Tryd.ntmps103
      go_wp2
      go_ret
      exact ⟨ret_bool (by simp [h1, h2]), rfl⟩
    · go_enter Tryd.func103, Tryd.ntmps103
      go_wp2
      go_ret
      exact ⟨ret_bool (by simp [h1, h2]), rfl⟩
  · go_enter Tryd.func103, Tryd.ntmps103
    go_wp2
    go_ret
    exact ⟨ret_bool (by simp [h1]; omega), rfl⟩

noncomputable def sizR (p : ByteArray) (k wide n long : Int) : Int := if IsP p then (if 1 ≤ k ∧ k ≤ wide ∧ 0 ≤ n ∧ n ≤ long then 0 else 2) else 1

set_option maxRecDepth 100000 in
set_option maxHeartbeats 1000000 in
theorem l10Sizes_any (p : ByteArray) (k wide n long : Int) (w : World) (sp : p.size ≤ maxLen) :
    Calls Tryd.prog 59 #[.string p, .int .i64 k, .int .i64 wide, .int .i64 n, .int .i64 long] w fun e w' => e = .returned (.int .i64 (sizR p k wide n long)) ∧ Below w.heap.size w w' := by
  unfold sizR
  by_cases hp : IsP p
  · rw [if_pos hp]
    have HP := Lib.hid (fun W => l10Is_yes p W hp)
    have C1 := Lib.hid (fun W => l01In_av k 1 wide W)
    have C2 := Lib.hid (fun W => l01In_av n 0 long W)
    by_cases h1 : 1 ≤ k ∧ k ≤ wide
    · have e1 : decide (1 ≤ k ∧ k ≤ wide) = true := decide_eq_true h1
      rw [e1] at C1
      by_cases h2 : 0 ≤ n ∧ n ≤ long
      · have e2 : decide (0 ≤ n ∧ n ≤ long) = true := decide_eq_true h2
        rw [e2] at C2
        rw [if_pos ⟨h1.1, h1.2, h2.1, h2.2⟩]
        clear e1 e2 h1 h2 hp sp
        go_enter Tryd.func59, Tryd.ntmps59
        go_wp2_with (first | (go_at_call 69; refine (HP.out _).mono ?_; rintro e w1 ⟨rfl, b1⟩) | (go_at_call 103; first | ((with_reducible refine (C1.out _).mono ?_); rintro e w2 ⟨rfl, rfl⟩) | ((with_reducible refine (C2.out _).mono ?_); rintro e w3 ⟨rfl, rfl⟩)))
        go_ret
        exact ⟨rfl, b1⟩
      · have e2 : decide (0 ≤ n ∧ n ≤ long) = false := decide_eq_false h2
        rw [e2] at C2
        rw [if_neg (fun e => h2 ⟨e.2.2.1, e.2.2.2⟩)]
        clear e1 e2 h1 h2 hp sp
        go_enter Tryd.func59, Tryd.ntmps59
        go_wp2_with (first | (go_at_call 69; refine (HP.out _).mono ?_; rintro e w1 ⟨rfl, b1⟩) | (go_at_call 103; first | ((with_reducible refine (C1.out _).mono ?_); rintro e w2 ⟨rfl, rfl⟩) | ((with_reducible refine (C2.out _).mono ?_); rintro e w3 ⟨rfl, rfl⟩)))
        go_ret
        exact ⟨rfl, b1⟩
    · have e1 : decide (1 ≤ k ∧ k ≤ wide) = false := decide_eq_false h1
      rw [e1] at C1
      rw [if_neg (fun e => h1 ⟨e.1, e.2.1⟩)]
      clear e1 h1 hp sp
      go_enter Tryd.func59, Tryd.ntmps59
      go_wp2_with (first | (go_at_call 69; refine (HP.out _).mono ?_; rintro e w1 ⟨rfl, b1⟩) | (go_at_call 103; refine (C1.out _).mono ?_; rintro e w2 ⟨rfl, rfl⟩))
      go_ret
      exact ⟨rfl, b1⟩
  · rw [if_neg hp]
    have HP := Lib.hid (fun W => l10Is_no p W sp hp)
    clear hp sp
    go_enter Tryd.func59, Tryd.ntmps59
    go_wp2_with (go_at_call 69; refine (HP.out _).mono ?_; rintro e w1 ⟨rfl, b1⟩)
    go_ret
    exact ⟨rfl, b1⟩

set_option maxRecDepth 100000 in
set_option maxHeartbeats 500000 in
theorem l10Count_any (p : ByteArray) (hp : IsP p) (k : Nat) (hk : k ≤ 3) : ∀ (f : Nat) (x : ByteArray) (w : World), x.size + f ≤ 12 →
    Calls Tryd.prog 60 #[.string x, .string p, .int .i64 (k : Int), .int .i64 (f : Int)] w fun e w' => e = .returned (.int .i64 ((avW (bl p) k f (bl x)).length : Int)) ∧ Below w.heap.size w w'
  | 0, x, w, hx => by
    have ha : avW (bl p) k 0 (bl x) = [bl x] := by rw [avW]
    rw [ha]
    go_enter Tryd.func60, Tryd.ntmps60
    go_wp2
    go_ret
    exact ⟨rfl, Below.refl _ _⟩
  | f + 1, x, w, hx => by
    have hf0 : (((f + 1 : Nat) : Int) == 0) = false := by rw [beq_eq_false_iff_ne]; omega
    have hl := Nat.le_trans (avW_len (bl p) k (f + 1) (bl x)) (pow_av hk (show f + 1 ≤ 12 by omega))
    obtain ⟨D, hD⟩ : ∃ D, avTo (avW (bl p) k f) (bl p) (bl x) = D := ⟨_, rfl⟩
    have ha : avW (bl p) k (f + 1) (bl x) = D k := by rw [avW, hD]
    rw [ha] at hl ⊢
    have IH := Lib.hid (l10Count_any p hp k hk f)
    have HH := Lib.hid (fun c (h : pendB (bl x ++ [letB ((c : Nat) : Int)]) (bl p) = true) => (by rw [← hD]; exact avTo_hit h : D (c + 1) = D c))
    have HM := Lib.hid (fun c (h : pendB (bl x ++ [letB ((c : Nat) : Int)]) (bl p) = false) => (by rw [← hD]; exact avTo_miss h : D (c + 1) = D c ++ avW (bl p) k f (bl x ++ [letB ((c : Nat) : Int)])))
    have HL := Lib.hid (fun c (h : c ≤ k) => (by rw [← hD]; exact avTo_le h : (D c).length ≤ (D k).length))
    have HD0 : D 0 = [] := by rw [← hD, avTo]
    obtain ⟨F, hF⟩ : ∃ F : Int, ((f + 1 : Nat) : Int) = F := ⟨_, rfl⟩
    have hfi : F - 1 = (f : Int) := by omega
    have hF1 : 1 ≤ F := by omega
    have hF2 : F ≤ 12 := by omega
    rw [hF] at hf0 ⊢
    clear hF
    have HP := Lib.hid hp
    have HX := Lib.hid hx
    have x11 : x.size ≤ 11 := by omega
    clear hD ha hp hx
    go_enter Tryd.func60, Tryd.ntmps60
    go_wp2_with fail
    go_loopw [9, 10] (fun s9 s10 wr => ∃ c : Nat, c ≤ k ∧ s9 = .int .i64 ((D c).length : Int) ∧ s10 = .int .i64 (c : Int) ∧ Below w.heap.size w wr) (fun _ s10 _ => k - (intOf s10).toNat)
    case atStart => exact ⟨0, Nat.zero_le _, by rw [HD0]; rfl, rfl, Below.refl _ _⟩
    case round =>
      obtain ⟨c, hc, rfl, rfl, hB⟩ := hrel
      by_cases hcp : c < k
      · have e1 := lt1_size c
        have LT := Lib.hid (show (⟨#[letB (c : Int)]⟩ : ByteArray) = lt1 c from rfl)
        have hsum : ∀ W, (Op.stringOp .add x (lt1 c)).run Tryd.prog W = .ok (.string (x ++ lt1 c)) W := fun W => run_string_add_sum W _ _ (by rw [lt1_size]; omega)
        have hszt := size_lt1 x c
        have hblt := bl_lt1 x c
        have CL := Lib.hid (fun W => by have h := l01Letter_any (c : Int) W (by omega) (by omega); rw [LT.out] at h; exact h)
        have CE := Lib.hid (fun W => by have q := l10Ends_any (bl (x ++ lt1 c)) (bl p) HP.out.list (bl_ne HP.out.1) (by rw [bl_len]; exact HP.out.2.1) (by rw [bl_len]; omega) W; rw [bt_bl, bt_bl] at q; exact q)
        have CI := Lib.hid (fun W => IH.out (x ++ lt1 c) W (by have := HX.out; omega))
        rw [hblt] at CE CI
        cases he : pendB (bl x ++ [letB (c : Int)]) (bl p) with
        | true =>
          rw [he] at CE
          have HD1 := Lib.hid (HH.out c he)
          clear he hszt hblt CI
          generalize lt1 c = t at *
          generalize x ++ t = y at *
          go_wp2_with (first | (go_at_call 104; refine (CL.out _).mono ?_; rintro e w1 ⟨rfl, b1⟩) | (go_at_call 92; refine (CE.out _).mono ?_; rintro e w2 ⟨rfl, b2⟩))
          go_roundw
          case rel => exact ⟨c + 1, by omega, by rw [HD1.out], by go_num, (hB.then b1).then b2⟩
          case measure => simp [intOf]; omega
        | false =>
          rw [he] at CE
          have HD1 := Lib.hid (HM.out c he)
          have hlc : (D c).length + (avW (bl p) k f (bl x ++ [letB (c : Int)])).length ≤ 531441 := by
            have := HL.out (c + 1) (by omega)
            rw [HD1.out, List.length_append] at this
            omega
          have HLc := Lib.hid (show (D (c + 1)).length = (D c).length + (avW (bl p) k f (bl x ++ [letB (c : Int)])).length by rw [HD1.out, List.length_append])
          clear he hszt hblt HD1
          generalize (avW (bl p) k f (bl x ++ [letB (c : Int)])).length = q at *
          generalize (D c).length = q0 at *
          generalize lt1 c = t at *
          generalize x ++ t = y at *
          go_wp2_with (first | (go_at_call 104; refine (CL.out _).mono ?_; rintro e w1 ⟨rfl, b1⟩) | (go_at_call 92; refine (CE.out _).mono ?_; rintro e w2 ⟨rfl, b2⟩) | (go_at_call 60; refine (CI.out _).mono ?_; rintro e w3 ⟨rfl, b3⟩))
          go_roundw
          case rel => exact ⟨c + 1, by omega, by rw [HLc.out]; go_num, by go_num, ((hB.then b1).then b2).then b3⟩
          case measure => simp [intOf]; omega
      · obtain rfl : c = k := by omega
        go_wp2_with fail
        go_ret
        exact ⟨rfl, hB⟩

set_option maxRecDepth 100000 in
set_option maxHeartbeats 500000 in
theorem l10First_any (p : ByteArray) (hp : IsP p) (k : Nat) (hk : k ≤ 3) : ∀ (f : Nat) (x : ByteArray) (w : World), x.size + f ≤ 12 →
    Calls Tryd.prog 64 #[.string x, .string p, .int .i64 (k : Int), .int .i64 (f : Int)] w fun e w' => e = .returned (.tuple #[.string (fstA (avW (bl p) k f (bl x))).1, .bool (fstA (avW (bl p) k f (bl x))).2]) ∧ Below w.heap.size w w'
  | 0, x, w, hx => by
    have ha : fstA (avW (bl p) k 0 (bl x)) = (x, true) := by rw [avW, fstA, bt_bl]
    rw [ha]
    go_enter Tryd.func64, Tryd.ntmps64
    go_wp2
    go_ret2
    exact ⟨rfl, Below.refl _ _⟩
  | f + 1, x, w, hx => by
    have hf0 : (((f + 1 : Nat) : Int) == 0) = false := by rw [beq_eq_false_iff_ne]; omega
    obtain ⟨D, hD⟩ : ∃ D, avTo (avW (bl p) k f) (bl p) (bl x) = D := ⟨_, rfl⟩
    have ha : avW (bl p) k (f + 1) (bl x) = D k := by rw [avW, hD]
    rw [ha]
    obtain ⟨R0, hR0⟩ : ∃ R0, fstA (D k) = R0 := ⟨_, rfl⟩
    rw [hR0]
    have HR0 := Lib.hid hR0
    clear hR0
    have IH := Lib.hid (l10First_any p hp k hk f)
    have HH := Lib.hid (fun c (h : pendB (bl x ++ [letB ((c : Nat) : Int)]) (bl p) = true) => (by rw [← hD]; exact avTo_hit h : D (c + 1) = D c))
    have HM := Lib.hid (fun c (h : pendB (bl x ++ [letB ((c : Nat) : Int)]) (bl p) = false) => (by rw [← hD]; exact avTo_miss h : D (c + 1) = D c ++ avW (bl p) k f (bl x ++ [letB ((c : Nat) : Int)])))
    have HPr := Lib.hid (fun c (h : c ≤ k) => (by rw [← hD]; exact avTo_pre h : ∃ t, D c ++ t = D k))
    have HD0 : D 0 = [] := by rw [← hD, avTo]
    obtain ⟨F, hF⟩ : ∃ F : Int, ((f + 1 : Nat) : Int) = F := ⟨_, rfl⟩
    have hfi : F - 1 = (f : Int) := by omega
    have hF1 : 1 ≤ F := by omega
    have hF2 : F ≤ 12 := by omega
    rw [hF] at hf0 ⊢
    clear hF
    have HP := Lib.hid hp
    have HX := Lib.hid hx
    have x11 : x.size ≤ 11 := by omega
    clear hD ha hp hx
    go_enter Tryd.func64, Tryd.ntmps64
    go_wp2_with fail
    go_loopw [10] (fun s10 wr => ∃ c : Nat, c ≤ k ∧ D c = [] ∧ s10 = .int .i64 (c : Int) ∧ Below w.heap.size w wr) (fun s10 _ => k - (intOf s10).toNat)
    case atStart => exact ⟨0, Nat.zero_le _, HD0, rfl, Below.refl _ _⟩
    case round =>
      obtain ⟨c, hc, hDc, rfl, hB⟩ := hrel
      have HDc := Lib.hid hDc
      clear hDc HD0
      by_cases hcp : c < k
      · have e1 := lt1_size c
        have LT := Lib.hid (show (⟨#[letB (c : Int)]⟩ : ByteArray) = lt1 c from rfl)
        have hsum : ∀ W, (Op.stringOp .add x (lt1 c)).run Tryd.prog W = .ok (.string (x ++ lt1 c)) W := fun W => run_string_add_sum W _ _ (by rw [lt1_size]; omega)
        have hszt := size_lt1 x c
        have hblt := bl_lt1 x c
        have CL := Lib.hid (fun W => by have h := l01Letter_any (c : Int) W (by omega) (by omega); rw [LT.out] at h; exact h)
        have CE := Lib.hid (fun W => by have q := l10Ends_any (bl (x ++ lt1 c)) (bl p) HP.out.list (bl_ne HP.out.1) (by rw [bl_len]; exact HP.out.2.1) (by rw [bl_len]; omega) W; rw [bt_bl, bt_bl] at q; exact q)
        have CI := Lib.hid (fun W => IH.out (x ++ lt1 c) W (by have := HX.out; omega))
        rw [hblt] at CE CI
        cases he : pendB (bl x ++ [letB (c : Int)]) (bl p) with
        | true =>
          rw [he] at CE
          have HD1 := Lib.hid ((HH.out c he).trans HDc.out)
          clear he hszt hblt CI
          generalize lt1 c = t at *
          generalize x ++ t = y at *
          go_wp2_with (first | (go_at_call 104; refine (CL.out _).mono ?_; rintro e w1 ⟨rfl, b1⟩) | (go_at_call 92; refine (CE.out _).mono ?_; rintro e w2 ⟨rfl, b2⟩))
          go_roundw
          case rel => exact ⟨c + 1, by omega, HD1.out, by go_num, (hB.then b1).then b2⟩
          case measure => simp [intOf]; omega
        | false =>
          rw [he] at CE
          have HD1 := Lib.hid (by have := HM.out c he; rw [HDc.out, List.nil_append] at this; exact this : D (c + 1) = avW (bl p) k f (bl x ++ [letB (c : Int)]))
          clear he hszt hblt
          generalize avW (bl p) k f (bl x ++ [letB (c : Int)]) = R at *
          generalize lt1 c = t at *
          generalize x ++ t = y at *
          cases R with
          | nil =>
            go_wp2_with (first | (go_at_call 104; refine (CL.out _).mono ?_; rintro e w1 ⟨rfl, b1⟩) | (go_at_call 92; refine (CE.out _).mono ?_; rintro e w2 ⟨rfl, b2⟩) | (go_at_call 64; refine (CI.out _).mono ?_; rintro e w3 ⟨rfl, b3⟩; simp only [fstA]))
            go_roundw
            case rel => exact ⟨c + 1, by omega, HD1.out, by go_num, ((hB.then b1).then b2).then b3⟩
            case measure => simp [intOf]; omega
          | cons s R =>
            have hfin : R0 = (bt s, true) := by
              obtain ⟨t2, ht2⟩ := HPr.out (c + 1) (by omega)
              rw [← HR0.out, ← ht2, HD1.out]
              rfl
            subst hfin
            clear HR0
            go_wp2_with (first | (go_at_call 104; refine (CL.out _).mono ?_; rintro e w1 ⟨rfl, b1⟩) | (go_at_call 92; refine (CE.out _).mono ?_; rintro e w2 ⟨rfl, b2⟩) | (go_at_call 64; refine (CI.out _).mono ?_; rintro e w3 ⟨rfl, b3⟩; simp only [fstA]))
            go_ret2
            exact ⟨rfl, ((hB.then b1).then b2).then b3⟩
      · obtain rfl : c = k := by omega
        have hfin : R0 = (⟨#[]⟩, false) := by rw [← HR0.out, HDc.out]; rfl
        subst hfin
        clear HR0
        go_wp2_with fail
        go_ret2
        exact ⟨rfl, hB⟩

end Go.Proofs.YtiojaiddgnbpiaaDoor
