/- The first place of a pattern: the model. -/
import Derived.Test.YtfipbnognjepkaaDoorLenS
import Derived.Test.YtfipbnognjepkaaDoorPlcR
namespace Go.Proofs.YtfipbnognjepkaaDoor
set_option linter.unusedVariables false
set_option linter.unusedSimpArgs false
open Go.RowKit

theorem outs_vals {X P : List UInt8} {W : Nat → List UInt8} (h : ∀ v, W v ≠ [] ↔ 0 < cntV P v) : outsV W 3 = valsB (vsOf P) W := by
  unfold outsV valsB vsOf
  congr 1
  refine List.filter_congr fun v _ => ?_
  exact decide_eq_decide.2 (h v)
set_option maxRecDepth 100000 in
theorem bt_mid (l : List UInt8) (a b : Nat) (h1 : a ≤ b) (h : b ≤ l.length) (W : World) : (Instr.slice 9 (.string (bt l)) (some (.int .i64 (a : Int))) (some (.int .i64 (b : Int))) none).run Tryd.prog W = .ok (.string (bt ((l.drop a).take (b - a)))) W := by
  have := run_slice_string (P := Tryd.prog) W 9 (bt l) .i64 .i64 (a : Int) (b : Int) Tryd.underlying9 (by omega) (by omega) (by rw [bt_size]; omega)
  have e : (bt l).extract a b = bt ((l.drop a).take (b - a)) := bl_inj (by rw [bl_extract]; rfl)
  simpa [e] using this
theorem fitsB_mid {X P : List UInt8} {a b : Nat} (h : b ≤ X.length) (h1 : a ≤ b) : fitsB ((X.drop a).take (b - a)) P = (fitL (X.drop a) P (b - a)).isSome := by
  unfold fitsB
  have e : ((X.drop a).take (b - a)).length = b - a := by rw [List.length_take, List.length_drop]; omega
  rw [e, fitL_take]
theorem pff_hit {X P : List UInt8} {i m : Nat} {W : Nat → List UInt8} (h1 : ∀ j, j < i → pffAt X P j = none) (hi : i < X.length) (h2 : ∀ k, i + P.length ≤ k → k < m → fitL (X.drop i) P (k - i) = none) (hm : i + P.length ≤ m) (hm2 : m ≤ X.length) (hW : fitL (X.drop i) P (m - i) = some W) : pff X P = some (i, W) := by
  unfold pff
  refine rseek_at h1 hi ?_
  unfold pffAt
  refine rseek_at (j := m - i - P.length) (fun k hk => ?_) (by omega) ?_
  · have := h2 (i + P.length + k) (by omega) (by omega)
    rw [show i + P.length + k - i = P.length + k by omega] at this
    rw [this]; rfl
  · rw [show P.length + (m - i - P.length) = m - i by omega, hW]; rfl
theorem pffAt_miss {X P : List UInt8} {i m : Nat} (h2 : ∀ k, i + P.length ≤ k → k < m → fitL (X.drop i) P (k - i) = none) (hm : X.length < m) : pffAt X P i = none := by
  unfold pffAt
  refine rseek_none fun k hk => ?_
  have := h2 (i + P.length + k) (by omega) (by omega)
  rw [show i + P.length + k - i = P.length + k by omega] at this
  rw [this]; rfl
def NoAt (F : Nat → Option (Nat × (Nat → List UInt8))) (i : Nat) : Prop := ∀ j, j < i → F j = none
def NoUp (F : Nat → Option (Nat → List UInt8)) (a m : Nat) : Prop := ∀ k, a ≤ k → k < m → F k = none

set_option maxRecDepth 100000 in
set_option maxHeartbeats 4000000 in
theorem spec_FirstPlace (x p : ByteArray) (w : World) (sx : x.size ≤ maxLen) (sp : p.size ≤ maxLen) :
    Calls Tryd.prog 13 #[.string x, .string p] w (RetP (placeR x p) w) := by
  by_cases h : IsW x ∧ IsP p
  · have HC := Lib.hid (fun W => l10Code_yes x p h W)
    have hx60 := h.1.size
    have hp8 := h.2.2.1
    have hP := h.2.list
    have hxl : (bl x).length = x.size := bl_len x
    have hpl : (bl p).length = p.size := bl_len p
    have HH := Lib.hid h
    obtain ⟨X, hX⟩ : ∃ X, bl x = X := ⟨_, rfl⟩
    obtain ⟨P, hPe⟩ : ∃ P, bl p = P := ⟨_, rfl⟩
    have hbx : bt X = x := by rw [← hX, bt_bl]
    have hbp : bt P = p := by rw [← hPe, bt_bl]
    rw [hX] at hxl
    rw [hPe] at hpl hP
    have HX := Lib.hid hX
    have HPE := Lib.hid hPe
    have HP := Lib.hid hP
    have HF := Lib.hid (fun (W : World) (a b : Nat) (h1 : a ≤ b) (h2 : b ≤ X.length) => by
      have q := l10Fits_any ((X.drop a).take (b - a)) P HP.out (by omega) (by rw [List.length_take, List.length_drop]; omega) W
      rw [fitsB_mid h2 h1, hbp] at q; exact q)
    have HL := Lib.hid (fun (W : World) (a b g : Nat) (h1 : a ≤ b) (h2 : b ≤ X.length) (hg : g < W.heap.size) => by
      have q := l10Lengths_any P ((X.drop a).take (b - a)) HP.out (by omega) (by rw [List.length_take, List.length_drop]; omega) 3 0 (fun _ => 0) g 0 W rfl (fun _ => Nat.zero_le _) (fun _ _ => rfl) (by rw [totL_zero]; exact Nat.zero_le _) ⟨hg, fun j hj => absurd hj (Nat.not_lt_zero _)⟩
      rw [hbp] at q; exact q)
    have hans : ∀ (a b B : Nat) (W : Nat → List UInt8) (e : Ending) (w' : World), a ≤ b → b ≤ X.length → fitL (X.drop a) P (b - a) = some W → LenAns ((X.drop a).take (b - a)) P 0 (fun _ => 0) (((X.drop a).take (b - a)).length - totL (fun _ => 0) P) B e w' → ∃ v, e = .returned (.tuple #[v, .bool true]) ∧ OwnS w' B v (valsB (vsOf P) W) := by
      intro a b B W e w' h1 h2 hf hl
      unfold LenAns at hl
      have e1 : ((X.drop a).take (b - a)).length = b - a := by rw [List.length_take, List.length_drop]; omega
      have e2 : srch ((X.drop a).take (b - a)) P (vsFrom P 0) (fun _ => 0) (b - a) = some W := by rw [vsFrom_zero, ← hf]; exact fitL_take _ _ _
      rw [e1, totL_zero, Nat.sub_zero, e2] at hl
      rw [← outs_vals (X := X) (P := P) (fun v => fitL_told HP.out hf (by rw [List.length_drop]; omega))]
      exact hl
    have HA := Lib.hid hans
    have HS := Lib.hid (fun (a b : Nat) (h1 : a ≤ b) (h2 : b ≤ X.length) => fun W => by have q := bt_mid X a b h1 h2 W; rw [hbx] at q; exact q)
    clear h hX hPe hbx hbp hP hans
    go_enter Tryd.func13, Tryd.ntmps13
    go_wp2_with (go_at_call 65; (with_reducible refine (HC.out _).mono ?_); rintro e w1 ⟨rfl, b1⟩)
    have hb1 := b1.size
    go_loopw [8] (fun s8 wr => ∃ i : Nat, i ≤ X.length ∧ s8 = .int .i64 (i : Int) ∧ NoAt (pffAt X P) i ∧ Below w.heap.size w wr) (fun s8 _ => X.length - (intOf s8).toNat)
    case atStart => exact ⟨0, Nat.zero_le _, rfl, fun j hj => absurd hj (Nat.not_lt_zero _), b1⟩
    case round =>
      obtain ⟨i, hi, rfl, hno, hB⟩ := hrel
      have HNO := Lib.hid hno
      clear hno
      have hBz := hB.size
      by_cases hlt : i < X.length
      · have hlt2 : (i : Int) < (x.size : Int) := by omega
        go_wp2_with fail
        obtain ⟨wo, rfl⟩ : ∃ wo, wo = wr := ⟨_, rfl⟩
        go_loopw [9] (fun s9 wq => ∃ m : Nat, i + P.length ≤ m ∧ m ≤ i + P.length + X.length + 1 ∧ s9 = .int .i64 (m : Int) ∧ NoUp (fun k => fitL (X.drop i) P (k - i)) (i + P.length) m ∧ Below wo.heap.size wo wq) (fun s9 _ => i + P.length + X.length + 1 - (intOf s9).toNat)
        case atStart => exact ⟨i + P.length, Nat.le_refl _, by omega, by go_num, fun k a b => by omega, Below.refl _ _⟩
        case round =>
          obtain ⟨m, hm1, hm2, rfl, hup, hBi⟩ := hrel
          have HUP := Lib.hid hup
          clear hup
          have hBiz := hBi.size
          by_cases hle : m ≤ X.length
          · have hle2 : (m : Int) ≤ (x.size : Int) := by omega
            have hs := HS.out i m (by omega) hle
            cases hf : fitL (X.drop i) P (m - i) with
            | none =>
              have CF := Lib.hid (fun W => HF.out W i m (by omega) hle)
              rw [hf] at CF
              have HFN := Lib.hid hf
              clear hf
              go_wp2_with (go_at_call 66; (with_reducible refine (CF.out _).mono ?_); rintro e w2 ⟨rfl, b2⟩)
              go_roundw
              case rel =>
                exact ⟨m + 1, by omega, by omega, by go_num, fun k a b => by
                  by_cases e : k = m
                  · rw [e]; exact HFN.out
                  · exact HUP.out k a (by omega), hBi.then b2⟩
              case measure => simp [intOf]; omega
            | some W =>
              have CF := Lib.hid (fun W => HF.out W i m (by omega) hle)
              rw [hf] at CF
              have CL := Lib.hid (fun (W' : World) g hg => HL.out W' i m g (by omega) hle hg)
              have CA := Lib.hid (fun B e w' => HA.out i m B W e w' (by omega) hle hf)
              have HE := Lib.hid (placeR_some HH.out (by rw [HX.out, HPE.out]; exact pff_hit HNO.out hlt HUP.out hm1 hle hf))
              clear hf
              go_wp2_with (first | (go_at_call 66; (with_reducible refine (CF.out _).mono ?_); rintro e w2 ⟨rfl, b2⟩) | (go_at_call 67; (with_reducible refine (CL.out _ _ (by simp)).mono ?_); rintro e w3 ⟨he, b3⟩; obtain ⟨v, rfl, hown⟩ := CA.out _ _ _ he))
              go_ret3
              have hb2 := b2.size
              refine ⟨v, by rw [HE.out]; rfl, ?_, ?_⟩
              · rw [HE.out, HPE.out]; exact hown.base (by simp; omega)
              · exact (((hB.then hBi).then b2).alloc (by have := ((hB.then hBi).then b2).size; omega) _).then b3
          · have hle2 : ¬ (m : Int) ≤ (x.size : Int) := by omega
            go_wp2_with fail
            go_roundw
            case rel =>
              exact ⟨i + 1, by omega, by go_num, fun j hj => by
                by_cases e : j = i
                · rw [e]; exact pffAt_miss HUP.out (by omega)
                · exact HNO.out j (by omega), hB.then hBi⟩
            case measure => simp [intOf]; omega
      · obtain rfl : i = X.length := by omega
        have hlt2 : ¬ ((X.length : Nat) : Int) < (x.size : Int) := by omega
        have HE := Lib.hid (placeR_none HH.out (by rw [HX.out, HPE.out]; exact rseek_none HNO.out))
        go_wp2_with fail
        go_ret3
        exact ⟨.slice none 0 0, by rw [HE.out]; rfl, by rw [HE.out]; exact OwnS.nil _ _, hB⟩
  · have hr := placeR_bad h
    have HR := Lib.hid hr
    have HC := Lib.hid (fun W => l10Code_no x p h sx sp W)
    clear h hr
    go_enter Tryd.func13, Tryd.ntmps13
    go_wp2_with (go_at_call 65; (with_reducible refine (HC.out _).mono ?_); rintro e w1 ⟨rfl, b1⟩)
    go_ret3
    exact ⟨.slice none 0 0, by rw [HR.out]; rfl, by rw [HR.out]; exact OwnS.nil _ _, b1⟩

end Go.Proofs.YtfipbnognjepkaaDoor
