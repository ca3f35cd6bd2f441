/- Closed and privileged words: the model. -/
import Derived.Test.YthjbdcoklgnnlaaClPlain
import Derived.Test.YthjbdcoklgnnlaaDrawn
import Derived.Test.YthjbdcoklgnnlaaRoot
import Derived.Test.YthjbdcoklgnnlaaFactor
import Derived.Test.YthjbdcoklgnnlaaPlacesPlain
namespace Go.Proofs.Ythjbdcoklgnnlaa
set_option linter.unusedVariables false
set_option linter.unusedSimpArgs false
open Go.RowKit

open Classical in
noncomputable def twB (l : List UInt8) (b : Nat) : Bool := decide (Tw l b)
open Classical in
theorem twB_yes {l : List UInt8} {b : Nat} (h : Tw l b) : twB l b = true := decide_eq_true h
open Classical in
theorem twB_no {l : List UInt8} {b : Nat} (h : ¬ Tw l b) : twB l b = false := decide_eq_false h

set_option maxRecDepth 100000 in
set_option maxHeartbeats 1000000 in
theorem l04Twice_q (x : ByteArray) (b : Nat) (w : World) (hx : x.size ≤ 60) (hb : b < x.size) :
    Calls Try.prog 72 #[.string x, .int .i64 (b : Int)] w fun e w' => e = .returned (.bool (twB (bl x) b)) ∧ ∃ n, w' = w.drewN n := by
  go_enter Try.func72, Try.ntmps72
  go_wp2
  go_loopw [5] (fun i wr => ∃ (k : Nat), 1 ≤ k ∧ k + b ≤ x.size + 1 ∧ i = .int .i64 (k : Int) ∧ Hid (Drawn w wr) ∧ Hid (∀ j, 1 ≤ j → j < k → j + b < x.size → ¬ SA (at_ (bl x)) j 0 b))
    (fun i _ => x.size + 1 - (intOf i).toNat)
  case atStart => exact ⟨1, Nat.le_refl _, by omega, rfl, Lib.hid (Drawn.refl w), Lib.hid fun j h1 h2 _ => by omega⟩
  case round =>
    obtain ⟨k, hk1, hk, rfl, HW, HU⟩ := hrel
    by_cases hp : k + b < x.size
    · have hlt : (k : Int) + (b : Int) < (x.size : Int) := by omega
      have hs1 : ∀ W, (Instr.slice 9 (.string x) (some (.int .i64 (k : Int))) (some (.int .i64 ((k : Int) + (b : Int)))) none).run Try.prog W = .ok (.string (x.extract k (k + b))) W := fun W => slice_mid x k b (by omega) W
      have hs2 := fun W => slice_to x (b : Int) b rfl (by omega) W
      have HNo := Lib.hid (tw_no (x := x) (i := k) (b := b) hk1 hp)
      have HSt := Lib.hid (tw_step (x := x) (i := k) (b := b) HU.out hp)
      generalize x.extract k (k + b) = y1 at *
      generalize x.extract 0 b = y2 at *
      by_cases he : y1 = y2
      · have hq := teq_yes he
        have HR := Lib.hid (twB_no (HNo.out he))
        clear he
        go_wp2
        go_quiet (fail)
        go_wp2
        go_ret
        exact ⟨by rw [HR.out]; rfl, HW.out.more _⟩
      · have hq := teq_no he
        have HN := Lib.hid (HSt.out he)
        clear he
        go_wp2
        go_quiet (fail)
        go_wp2
        go_roundw
        case rel => exact ⟨k + 1, by omega, by omega, by go_num, Lib.hid (HW.out.more _), HN⟩
        case measure => simp [intOf]; omega
    · have hlt : ¬ (k : Int) + (b : Int) < (x.size : Int) := by omega
      have HR := Lib.hid (twB_yes (l := bl x) (b := b) fun i h1 h2 => HU.out i h1 (by rw [bl_len] at h2; omega) (by rw [bl_len] at h2; exact h2))
      go_wp2
      go_ret
      exact ⟨by rw [HR.out]; rfl, HW.out⟩

/-- What is asked: closed, or privileged. -/
noncomputable def clpB (p : Bool) (l : List UInt8) : Bool := if p then prB l else clB l
def clpOK (p : Bool) (l : List UInt8) (j : Nat) : Prop := Cl l j ∧ (p = true → prB (l.take j) = true)
theorem clpB_short {p : Bool} {l : List UInt8} (h : l.length ≤ 1) : clpB p l = true := by
  cases p
  · exact clB_short h
  · exact prB_short h
theorem clpB_yes {p : Bool} {l : List UInt8} {j : Nat} (h : ¬ l.length ≤ 1) (k : clpOK p l j) : clpB p l = true := by
  have e := cb_of k.1
  have h0 : 0 < cb l := by rw [e]; exact k.1.1
  cases p
  · show clB l = true
    rw [clB_long h]; exact decide_eq_true h0
  · show prB l = true
    rw [prB_long h h0, e]; exact k.2 rfl
theorem clpB_no {p : Bool} {l : List UInt8} (h : ¬ l.length ≤ 1) (k : ∀ j, 1 ≤ j → j < l.length → ¬ clpOK p l j) : clpB p l = false := by
  by_cases h0 : 0 < cb l
  · have hc := cb_some h0
    have h2 := k _ hc.1 hc.2.1
    cases p
    · exact absurd ⟨hc, fun e => by cases e⟩ h2
    · show prB l = false
      rw [prB_long h h0, Bool.eq_false_iff]
      intro e
      exact h2 ⟨hc, fun _ => e⟩
  · cases p
    · show clB l = false
      rw [clB_long h]; exact decide_eq_false h0
    · exact prB_none h h0
theorem clp_step {p : Bool} {l : List UInt8} {k : Nat} (h : ∀ j, 1 ≤ j → j < k → j < l.length → ¬ clpOK p l j) (hk : ¬ clpOK p l k) : ∀ j, 1 ≤ j → j < k + 1 → j < l.length → ¬ clpOK p l j := fun j h1 h2 h3 => by
  by_cases e : j = k
  · subst e; exact hk
  · exact h j h1 (by omega) h3

set_option maxRecDepth 100000 in
set_option maxHeartbeats 2000000 in
theorem l04Closed_q : ∀ (N : Nat) (x : ByteArray) (p : Bool) (w : World), x.size ≤ N → x.size ≤ 60 →
    Calls Try.prog 62 #[.string x, .bool p] w fun e w' => e = .returned (.bool (clpB p (bl x))) ∧ ∃ n, w' = w.drewN n := by
  intro N
  induction N with
  | zero =>
    intro x p w hn hx
    have HC := Lib.hid (clpB_short (p := p) (l := bl x) (by rw [bl_len]; omega))
    have h1i : (x.size : Int) < 2 := by omega
    go_enter Try.func62, Try.ntmps62
    go_wp2
    go_ret
    exact ⟨by rw [HC.out]; rfl, 0, rfl⟩
  | succ N ih =>
    intro x p w hn hx
    by_cases h1 : x.size ≤ 1
    · have HC := Lib.hid (clpB_short (p := p) (l := bl x) h1)
      have h1i : (x.size : Int) < 2 := by omega
      clear ih
      go_enter Try.func62, Try.ntmps62
      go_wp2
      go_ret
      exact ⟨by rw [HC.out]; rfl, 0, rfl⟩
    · have IH := Lib.hid ih
      clear ih
      have h1i : ¬ (x.size : Int) < 2 := by omega
      obtain ⟨R, hR⟩ : ∃ R, clpB p (bl x) = R := ⟨_, rfl⟩
      rw [hR]
      have HY : Hid (∀ j, clpOK p (bl x) j → R = true) := Lib.hid fun j hj => by rw [← hR]; exact clpB_yes h1 hj
      have HN0 : Hid ((∀ j, 1 ≤ j → j < x.size → ¬ clpOK p (bl x) j) → R = false) := Lib.hid fun hj => by rw [← hR]; exact clpB_no h1 hj
      clear hR
      go_enter Try.func62, Try.ntmps62
      go_wp2
      go_loopw [5] (fun i wr => ∃ (k : Nat), 1 ≤ k ∧ k ≤ x.size ∧ i = .int .i64 (k : Int) ∧ Hid (Drawn w wr) ∧ Hid (∀ j, 1 ≤ j → j < k → j < x.size → ¬ clpOK p (bl x) j))
        (fun i _ => x.size + 1 - (intOf i).toNat)
      case atStart => exact ⟨1, Nat.le_refl _, by omega, rfl, Lib.hid (Drawn.refl w), Lib.hid fun j h1 h2 _ => by omega⟩
      case round =>
        obtain ⟨k, hk1, hk, rfl, HW, HU⟩ := hrel
        by_cases hp : k < x.size
        · have hlt : (k : Int) < (x.size : Int) := by omega
          have hs1 := fun W => slice_to x (k : Int) k rfl (by omega) W
          have hs2 := fun W => slice_from x ((x.size : Int) - (k : Int)) (x.size - k) (by omega) (by omega) W
          have hpt : x.extract 0 k = x.extract (x.size - k) x.size ↔ Per (bl x) (x.size - k) := by
            have := per_text x (x.size - k) (by omega)
            rw [show x.size - (x.size - k) = k by omega, perT_iff] at this
            rw [← this]; exact eq_comm
          have CT := Lib.hid fun w => l04Twice_q x k w hx hp
          have CI : Hid (∀ w, Calls Try.prog 62 #[.string (x.extract 0 k), .bool true] w fun e w' => e = .returned (.bool (prB ((bl x).take k))) ∧ ∃ n, w' = w.drewN n) := Lib.hid fun w => by
            have := IH.out (x.extract 0 k) true w (by simp; omega) (by simp; omega)
            rwa [bl_take] at this
          have HST := Lib.hid (clp_step (p := p) (l := bl x) (k := k) HU.out)
          have HOK : Hid (Per (bl x) (x.size - k) → Tw (bl x) k → (p = true → prB ((bl x).take k) = true) → clpOK p (bl x) k) := Lib.hid fun a b c => ⟨⟨hk1, by rw [bl_len]; exact hp, by rw [bl_len]; exact a, b⟩, c⟩
          have HNO : Hid (clpOK p (bl x) k → Per (bl x) (x.size - k) ∧ Tw (bl x) k ∧ (p = true → prB ((bl x).take k) = true)) := Lib.hid fun c => ⟨by have := c.1.2.2.1; rwa [bl_len] at this, c.1.2.2.2, c.2⟩
          generalize x.extract 0 k = y1 at *
          generalize x.extract (x.size - k) x.size = y2 at *
          by_cases he : y1 = y2
          · have hq := teq_yes he
            have hper := hpt.1 he
            by_cases htw : Tw (bl x) k
            · have CT2 : Hid (∀ w, Calls Try.prog 72 #[.string x, .int .i64 (k : Int)] w fun e w' => e = .returned (.bool true) ∧ ∃ n, w' = w.drewN n) := Lib.hid fun w => by
                have := CT.out w
                rwa [twB_yes htw] at this
              cases p with
              | false =>
                have HR := Lib.hid (HY.out k (HOK.out hper htw fun e => by cases e))
                clear he hpt hper htw CT
                go_wp2
                go_quiet ((go_at_call 72; exact Calls.quiet_of (CT2.out _)))
                go_wp2
                go_ret
                exact ⟨by rw [HR.out]; rfl, HW.out.more _⟩
              | true =>
                by_cases hpr : prB ((bl x).take k) = true
                · have HR := Lib.hid (HY.out k (HOK.out hper htw fun _ => hpr))
                  have CI2 : Hid (∀ w, Calls Try.prog 62 #[.string y1, .bool true] w fun e w' => e = .returned (.bool true) ∧ ∃ n, w' = w.drewN n) := Lib.hid fun w => by
                    have := CI.out w
                    rwa [hpr] at this
                  clear he hpt hper htw CT CI hpr
                  go_wp2
                  go_quiet ((first | (go_at_call 72; exact Calls.quiet_of (CT2.out _)) | (go_at_call 62; exact Calls.quiet_of (CI2.out _))))
                  go_wp2
                  go_ret
                  exact ⟨by rw [HR.out]; rfl, HW.out.more _⟩
                · have HN := Lib.hid (HST.out fun c => hpr ((HNO.out c).2.2 rfl))
                  have hpr2 : prB ((bl x).take k) = false := by simpa using hpr
                  have CI2 : Hid (∀ w, Calls Try.prog 62 #[.string y1, .bool true] w fun e w' => e = .returned (.bool false) ∧ ∃ n, w' = w.drewN n) := Lib.hid fun w => by
                    have := CI.out w
                    rwa [hpr2] at this
                  clear he hpt hper htw CT CI hpr hpr2
                  go_wp2
                  go_quiet ((first | (go_at_call 72; exact Calls.quiet_of (CT2.out _)) | (go_at_call 62; exact Calls.quiet_of (CI2.out _))))
                  go_wp2
                  go_roundw
                  case rel => exact ⟨k + 1, by omega, by omega, by go_num, Lib.hid (HW.out.more _), HN⟩
                  case measure => simp [intOf]; omega
            · have CT2 : Hid (∀ w, Calls Try.prog 72 #[.string x, .int .i64 (k : Int)] w fun e w' => e = .returned (.bool false) ∧ ∃ n, w' = w.drewN n) := Lib.hid fun w => by
                have := CT.out w
                rwa [twB_no htw] at this
              have HN := Lib.hid (HST.out fun c => htw (HNO.out c).2.1)
              clear he hpt hper htw CT CI
              go_wp2
              go_quiet ((go_at_call 72; exact Calls.quiet_of (CT2.out _)))
              go_wp2
              go_roundw
              case rel => exact ⟨k + 1, by omega, by omega, by go_num, Lib.hid (HW.out.more _), HN⟩
              case measure => simp [intOf]; omega
          · have hq := teq_no he
            have HN := Lib.hid (HST.out fun c => he (hpt.2 (HNO.out c).1))
            clear he hpt CT CI
            go_wp2
            go_quiet (fail)
            go_wp2
            go_roundw
            case rel => exact ⟨k + 1, by omega, by omega, by go_num, Lib.hid (HW.out.more _), HN⟩
            case measure => simp [intOf]; omega
        · have hlt : ¬ (k : Int) < (x.size : Int) := by omega
          have HR := Lib.hid (HN0.out fun j h1 h2 => HU.out j h1 (by omega) h2)
          go_wp2
          go_ret
          exact ⟨by rw [HR.out]; rfl, HW.out⟩

end Go.Proofs.Ythjbdcoklgnnlaa
