/- Patterns in the model: ends of words, words that have patterns. -/
import Derived.Test.YtfipbnognjepkaaDoorFitS
namespace Go.Proofs.YtfipbnognjepkaaDoor
set_option linter.unusedVariables false
set_option linter.unusedSimpArgs false
open Go.RowKit

set_option maxRecDepth 100000 in
set_option maxHeartbeats 1000000 in
theorem l10Fits_any (R P : List UInt8) (hP : IsPL P) (hP8 : P.length ≤ 8) (hR : R.length ≤ 60) (w : World) :
    Calls Tryd.prog 66 #[.string (bt R), .string (bt P)] w fun e w' => e = .returned (.bool (fitsB R P)) ∧ Below w.heap.size w w' := by
  have h3 : Three (w.alloc (.cells #[.string ⟨#[]⟩, .string ⟨#[]⟩, .string ⟨#[]⟩] 9)) w.heap.size (fun _ => []) := ⟨by simp, fun j hj => by
    have hj' : j = 0 ∨ j = 1 ∨ j = 2 := by omega
    have e : bt ([] : List UInt8) = ⟨#[]⟩ := rfl
    rcases hj' with rfl | rfl | rfl <;> simp [go_sem, e]⟩
  have CF := l10Fit_any P R (fun _ => []) w.heap.size 3 _ hP hP8 hR (fun _ => Nat.zero_le _) h3
  have HCF := Lib.hid CF
  clear CF h3
  go_enter Tryd.func66, Tryd.ntmps66
  go_wp2_with (go_at_call 130; refine HCF.out.mono ?_; rintro e w1 ⟨⟨v, t, rfl, ht⟩, b1⟩)
  go_ret
  refine ⟨ret_bool ?_, (Below.new w _).trans (b1.mono (by simp))⟩
  rw [Bool.eq_iff_iff, ht, fitE_fits, fitsB_iff hP]

theorem fitsB_short {R P : List UInt8} (hP : IsPL P) (h : R.length < P.length) : fitsB R P = false := by
  rw [Bool.eq_false_iff]
  intro e
  have := ((fitsB_iff hP).1 e).ge
  omega

def NoneE (F : Nat → Bool) (j d : Nat) : Prop := ∀ i, j ≤ i → i ≤ d → F i = false

set_option maxRecDepth 100000 in
set_option maxHeartbeats 1000000 in
theorem l10Ends_any (X P : List UInt8) (hP : IsPL P) (h0 : P ≠ []) (hP8 : P.length ≤ 8) (hX : X.length ≤ 60) (w : World) :
    Calls Tryd.prog 141 #[.string (bt X), .string (bt P)] w fun e w' => e = .returned (.bool (pendB X P)) ∧ Below w.heap.size w w' := by
  have hxs : (bt X).size = X.length := bt_size X
  have hps : (bt P).size = P.length := bt_size P
  have HP := Lib.hid hP
  clear hP
  by_cases hsh : X.length < P.length
  · have he : pendB X P = false := by
      rw [Bool.eq_false_iff]
      intro e
      obtain ⟨i, _, hf⟩ := (pendB_iff HP.out).1 e
      have := hf.ge
      rw [List.length_drop] at this
      omega
    have HE := Lib.hid he
    clear he
    generalize bt X = x at *
    generalize bt P = p at *
    go_enter Tryd.func141, Tryd.ntmps141
    go_wp2_with fail
    go_loopw [5] (fun s5 wr => s5 = .int .i64 ((X.length : Int) - (P.length : Int)) ∧ wr = w) (fun _ _ => 0)
    case atStart => exact ⟨rfl, rfl⟩
    case round =>
      obtain ⟨rfl, rfl⟩ := hrel
      go_wp2_with fail
      go_ret
      exact ⟨by rw [HE.out]; rfl, Below.refl _ _⟩
  · obtain ⟨d, hd⟩ : ∃ d, X.length = P.length + d := ⟨X.length - P.length, by omega⟩
    have CF := Lib.hid (fun (W : World) (i : Nat) => l10Fits_any (X.drop i) P HP.out hP8 (by rw [List.length_drop]; omega) W)
    have HXL := Lib.hid hd
    have hd60 : d ≤ 60 := by omega
    have hs1 : ∀ (i : Nat), i ≤ d → ∀ W, (Instr.slice 9 (.string (bt X)) (some (.int .i64 (i : Int))) none none).run Tryd.prog W = .ok (.string (bt (X.drop i))) W := fun i hi W => bt_from X i (by omega) W
    have HS := Lib.hid hs1
    have hdi : (X.length : Int) - (P.length : Int) = ((d : Nat) : Int) + 1 - 1 := by omega
    have HDI := Lib.hid hdi
    clear hs1
    go_enter Tryd.func141, Tryd.ntmps141
    go_wp2_with fail
    clear hdi
    go_loopw [5] (fun s5 wr => ∃ j : Nat, j ≤ d + 1 ∧ s5 = .int .i64 ((j : Int) - 1) ∧ NoneE (fun i => fitsB (X.drop i) P) j d ∧ Below w.heap.size w wr) (fun s5 _ => (intOf s5 + 1).toNat)
    case atStart => exact ⟨d + 1, Nat.le_refl _, by congr 1; have := HDI.out; omega, fun i a b => by omega, Below.refl _ _⟩
    case round =>
      obtain ⟨j, hj, rfl, hno, hB⟩ := hrel
      have HNO := Lib.hid hno
      clear hno
      cases j with
      | zero =>
        have he : pendB X P = false := by
          rw [Bool.eq_false_iff]
          intro e
          obtain ⟨i, hi, hf⟩ := (pendB_iff HP.out).1 e
          have h1 := hf.ge
          rw [List.length_drop] at h1
          have h2 := (fitsB_iff HP.out).2 hf
          have h3 : fitsB (X.drop i) P = false := HNO.out i (Nat.zero_le _) (by have := HXL.out; omega)
          rw [h3] at h2; cases h2
        have HE := Lib.hid he
        clear he
        go_wp2_with fail
        go_ret
        exact ⟨by rw [HE.out]; rfl, hB⟩
      | succ i =>
        have hji : ((i + 1 : Nat) : Int) - 1 = (i : Int) := by omega
        rw [hji]
        have HJI := Lib.hid hji
        have hs := HS.out i (by omega)
        clear hji
        cases hf : fitsB (X.drop i) P with
        | true =>
          have he : pendB X P = true := (pendB_iff HP.out).2 ⟨i, by
            have h1 := List.length_pos_iff.2 h0
            have h2 := HXL.out
            omega, (fitsB_iff HP.out).1 hf⟩
          have HE := Lib.hid he
          have HF := Lib.hid hf
          clear he hf
          go_wp2_with (go_at_call 66; refine (CF.out _ i).mono ?_; rintro e w1 ⟨rfl, b1⟩; rw [HF.out])
          go_ret
          exact ⟨by rw [HE.out]; rfl, hB.then b1⟩
        | false =>
          have HF := Lib.hid hf
          clear hf
          go_wp2_with (go_at_call 66; refine (CF.out _ i).mono ?_; rintro e w1 ⟨rfl, b1⟩; rw [HF.out])
          go_roundw
          case rel => exact ⟨i, by omega, rfl, fun m a b => by
            by_cases e : m = i
            · rw [e]; exact HF.out
            · exact HNO.out m (by omega) b, hB.then b1⟩
          case measure => simp [intOf]


def NoneH (F : Nat → Bool) (a n : Nat) : Prop := ∀ m, a ≤ m → m < n → F m = false

set_option maxRecDepth 100000 in
set_option maxHeartbeats 1000000 in
theorem l10Has_any (X P : List UInt8) (hP : IsPL P) (h0 : P ≠ []) (hP8 : P.length ≤ 8) (hX : X.length ≤ 60) (w : World) :
    Calls Tryd.prog 77 #[.string (bt X), .string (bt P)] w fun e w' => e = .returned (.bool (hasB X P)) ∧ Below w.heap.size w w' := by
  have hxs : (bt X).size = X.length := bt_size X
  have hps : (bt P).size = P.length := bt_size P
  have HP := Lib.hid hP
  clear hP
  have CF := Lib.hid (fun (W : World) (n : Nat) (h : n ≤ X.length) => l10Ends_any (X.take n) P HP.out h0 hP8 (by rw [List.length_take]; omega) W)
  have HS := Lib.hid (fun (n : Nat) (hn : n ≤ X.length) => fun W => bt_to X n hn W)
  go_enter Tryd.func77, Tryd.ntmps77
  go_wp2_with fail
  go_loopw [5] (fun s5 wr => ∃ n : Nat, P.length ≤ n ∧ n ≤ P.length + X.length + 1 ∧ s5 = .int .i64 (n : Int) ∧ NoneH (fun m => pendB (X.take m) P) P.length n ∧ Below w.heap.size w wr) (fun s5 _ => P.length + X.length + 1 - (intOf s5).toNat)
  case atStart => exact ⟨P.length, Nat.le_refl _, by omega, rfl, fun i a b => by omega, Below.refl _ _⟩
  case round =>
    obtain ⟨n, hn, hn2, rfl, hno, hB⟩ := hrel
    have HNO := Lib.hid hno
    clear hno
    by_cases hle : n ≤ X.length
    · have hs := HS.out n hle
      cases hf : pendB (X.take n) P with
      | true =>
        have he : hasB X P = true := (hasB_ends HP.out h0).2 ⟨n, hn, hle, hf⟩
        have HE := Lib.hid he
        have HF := Lib.hid hf
        clear he hf
        go_wp2_with (go_at_call 141; refine (CF.out _ n hle).mono ?_; rintro e w1 ⟨rfl, b1⟩; rw [HF.out])
        go_ret
        exact ⟨by rw [HE.out]; rfl, hB.then b1⟩
      | false =>
        have HF := Lib.hid hf
        clear hf
        go_wp2_with (go_at_call 141; refine (CF.out _ n hle).mono ?_; rintro e w1 ⟨rfl, b1⟩; rw [HF.out])
        go_roundw
        case rel =>
          have hno2 : NoneH (fun m => pendB (X.take m) P) P.length (n + 1) := fun m a b => by
            by_cases e : m = n
            · rw [e]; exact HF.out
            · exact HNO.out m a (by omega)
          exact ⟨n + 1, by omega, by omega, by go_num, hno2, hB.then b1⟩
        case measure => simp [intOf]; omega
    · have he : hasB X P = false := by
        rw [Bool.eq_false_iff]
        intro e
        obtain ⟨m, h1, h2, h3⟩ := (hasB_ends HP.out h0).1 e
        have h4 : pendB (X.take m) P = false := HNO.out m h1 (by omega)
        rw [h4] at h3; cases h3
      have HE := Lib.hid he
      clear he
      go_wp2_with fail
      go_ret
      exact ⟨by rw [HE.out]; rfl, hB⟩

/-- The answers of chapter 10 to a word and a pattern. -/
noncomputable instance (p : ByteArray) : Decidable (IsP p) := Classical.propDecidable _
noncomputable def hasR (x p : ByteArray) : Bool × Int := if ¬ (IsW x ∧ IsP p) then (false, 1) else (hasB (bl x) (bl p), 0)
noncomputable def fitsR (x p : ByteArray) : Bool × Int := if ¬ (IsW x ∧ IsP p) then (false, 1) else (fitsB (bl x) (bl p), 0)
theorem hasR_bad {x p : ByteArray} (h : ¬ (IsW x ∧ IsP p)) : hasR x p = (false, 1) := if_pos h
theorem hasR_ok {x p : ByteArray} (h : IsW x ∧ IsP p) : hasR x p = (hasB (bl x) (bl p), 0) := if_neg (not_not_intro h)
theorem fitsR_bad {x p : ByteArray} (h : ¬ (IsW x ∧ IsP p)) : fitsR x p = (false, 1) := if_pos h
theorem fitsR_ok {x p : ByteArray} (h : IsW x ∧ IsP p) : fitsR x p = (fitsB (bl x) (bl p), 0) := if_neg (not_not_intro h)

set_option maxRecDepth 100000 in
theorem l10Code_yes (x p : ByteArray) (h : IsW x ∧ IsP p) (w : World) :
    Calls Tryd.prog 65 #[.string x, .string p] w fun e w' => e = .returned (.int .i64 0) ∧ Below w.heap.size w w' := by
  have H := Lib.hid h
  clear h
  go_enter Tryd.func65, Tryd.ntmps65
  go_wp2_with (first | (go_at_call 57; (with_reducible refine (l01Is_yes x _ H.out.1).mono ?_); rintro e w1 ⟨rfl, b1⟩) | (go_at_call 58; (with_reducible refine (l10Is_yes p _ H.out.2).mono ?_); rintro e w2 ⟨rfl, b2⟩))
  go_ret
  exact ⟨rfl, b1.then b2⟩
set_option maxRecDepth 100000 in
theorem l10Code_no (x p : ByteArray) (h : ¬ (IsW x ∧ IsP p)) (sx : x.size ≤ maxLen) (sp : p.size ≤ maxLen) (w : World) :
    Calls Tryd.prog 65 #[.string x, .string p] w fun e w' => e = .returned (.int .i64 1) ∧ Below w.heap.size w w' := by
  by_cases hx : IsW x
  · have hp : ¬ IsP p := fun e => h ⟨hx, e⟩
    have HX := Lib.hid hx
    have HPP := Lib.hid hp
    have SP := Lib.hid sp
    clear h hx hp sx sp
    go_enter Tryd.func65, Tryd.ntmps65
    go_wp2_with (first | (go_at_call 57; (with_reducible refine (l01Is_yes x _ HX.out).mono ?_); rintro e w1 ⟨rfl, b1⟩) | (go_at_call 58; (with_reducible refine (l10Is_no p _ SP.out HPP.out).mono ?_); rintro e w2 ⟨rfl, b2⟩))
    go_ret
    exact ⟨rfl, b1.then b2⟩
  · have HX := Lib.hid hx
    have SX := Lib.hid sx
    clear h hx sx sp
    go_enter Tryd.func65, Tryd.ntmps65
    go_wp2_with (go_at_call 57; (with_reducible refine (l01Is_no x _ SX.out HX.out).mono ?_); rintro e w1 ⟨rfl, b1⟩)
    go_ret
    exact ⟨rfl, b1⟩

set_option maxRecDepth 100000 in
theorem spec_HasPattern (x p : ByteArray) (w : World) (sx : x.size ≤ maxLen) (sp : p.size ≤ maxLen) :
    Calls Tryd.prog 22 #[.string x, .string p] w fun e w' => e = .returned (.tuple #[.bool (hasR x p).1, .int .i64 (hasR x p).2]) ∧ Below w.heap.size w w' := by
  by_cases h : IsW x ∧ IsP p
  · rw [hasR_ok h]
    have HC := Lib.hid (fun W => l10Code_yes x p h W)
    have HF := Lib.hid (fun W => by have q := l10Has_any (bl x) (bl p) h.2.list (bl_ne h.2.1) (by rw [bl_len]; exact h.2.2.1) (by rw [bl_len]; exact h.1.size) W; rw [bt_bl, bt_bl] at q; exact q)
    clear h
    go_enter Tryd.func22, Tryd.ntmps22
    go_wp2_with (first | (go_at_call 65; (with_reducible refine (HC.out _).mono ?_); rintro e w1 ⟨rfl, b1⟩) | (go_at_call 77; (with_reducible refine (HF.out _).mono ?_); rintro e w2 ⟨rfl, b2⟩))
    go_ret2
    exact ⟨rfl, b1.then b2⟩
  · rw [hasR_bad h]
    have HC := Lib.hid (fun W => l10Code_no x p h sx sp W)
    clear h
    go_enter Tryd.func22, Tryd.ntmps22
    go_wp2_with (go_at_call 65; (with_reducible refine (HC.out _).mono ?_); rintro e w1 ⟨rfl, b1⟩)
    go_ret2
    exact ⟨rfl, b1⟩

set_option maxRecDepth 100000 in
theorem spec_FitsPattern (x p : ByteArray) (w : World) (sx : x.size ≤ maxLen) (sp : p.size ≤ maxLen) :
    Calls Tryd.prog 25 #[.string x, .string p] w fun e w' => e = .returned (.tuple #[.bool (fitsR x p).1, .int .i64 (fitsR x p).2]) ∧ Below w.heap.size w w' := by
  by_cases h : IsW x ∧ IsP p
  · rw [fitsR_ok h]
    have HC := Lib.hid (fun W => l10Code_yes x p h W)
    have HF := Lib.hid (fun W => by have q := l10Fits_any (bl x) (bl p) h.2.list (by rw [bl_len]; exact h.2.2.1) (by rw [bl_len]; exact h.1.size) W; rw [bt_bl, bt_bl] at q; exact q)
    clear h
    go_enter Tryd.func25, Tryd.ntmps25
    go_wp2_with (first | (go_at_call 65; (with_reducible refine (HC.out _).mono ?_); rintro e w1 ⟨rfl, b1⟩) | (go_at_call 66; (with_reducible refine (HF.out _).mono ?_); rintro e w2 ⟨rfl, b2⟩))
    go_ret2
    exact ⟨rfl, b1.then b2⟩
  · rw [fitsR_bad h]
    have HC := Lib.hid (fun W => l10Code_no x p h sx sp W)
    clear h
    go_enter Tryd.func25, Tryd.ntmps25
    go_wp2_with (go_at_call 65; (with_reducible refine (HC.out _).mono ?_); rintro e w1 ⟨rfl, b1⟩)
    go_ret2
    exact ⟨rfl, b1⟩

end Go.Proofs.YtfipbnognjepkaaDoor
