/- Closed and privileged words: the program. -/
import Derived.Test.YthjbdcoklgnnlaaClPlain
import Derived.Test.YthjbdcoklgnnlaaRoot
import Derived.Test.YthjbdcoklgnnlaaWord
import Derived.Test.YthjbdcoklgnnlaaLib
namespace Go.Proofs.Ythjbdcoklgnnlaa
set_option linter.unusedVariables false
set_option linter.unusedSimpArgs false
open Go.RowKit

/-- The library's variable holds a number. -/
def MaxOK (w : World) : Prop := ∃ m, w.cell? ⟨0, 0, none⟩ = some (.int .i64 m)
theorem MaxOK.below {w w' : World} (h : MaxOK w) (b : Below w.heap.size w w') : MaxOK w' := by
  obtain ⟨m, hm⟩ := h
  refine ⟨m, (b.cell (p := ⟨0, 0, none⟩) ?_).trans hm⟩
  show 0 < w.heap.size
  refine Nat.lt_of_not_le fun hc => ?_
  unfold World.cell? at hm
  rw [Array.getElem?_eq_none hc] at hm
  cases hm
theorem MaxOK.drewN {w : World} (h : MaxOK w) (n : Nat) : MaxOK (w.drewN n) := by
  obtain ⟨m, hm⟩ := h
  exact ⟨m, hm⟩

set_option maxRecDepth 100000 in
set_option maxHeartbeats 1000000 in
theorem closingBorder_any (x : ByteArray) (w : World) (hx : x.size ≤ 60) (h0 : 0 < x.size) (hM : MaxOK w) :
    Calls Try.prog 73 #[.string x] w fun e w' => e = .returned (.int .i64 (cb (bl x) : Int)) ∧ Below w.heap.size w w' := by
  have hne := bl_ne h0
  have CL := Lib.hid fun w => leastPeriod_any x w hx h0
  obtain ⟨p0, p1, _, _⟩ := lp_ok hne
  rw [bl_len] at p1
  by_cases hb : 0 < x.size - lp (bl x)
  · have hix := cb_index hne (by rw [bl_len]; exact hb)
    have hcv : Hid (0 < cb (bl x) → cb (bl x) = x.size - lp (bl x)) := Lib.hid fun h => by have := cb_val h; rwa [bl_len] at this
    rw [bl_len] at hix
    generalize lp (bl x) = p at *
    generalize cb (bl x) = c at *
    have hs1 := fun W => slice_from x 1 1 rfl (by omega) W
    have hs2 := fun W => slice_to x ((x.size : Int) - (p : Int)) (x.size - p) (by omega) (by omega) W
    have CI : Hid (∀ w, MaxOK w → Calls Try.prog 78 #[.string (x.extract 1 x.size), .string (x.extract 0 (x.size - p))] w fun e w' => e = .returned (.int .i64 (Lib.index ((bl x).drop 1) ((bl x).take (x.size - p)))) ∧ w' = w) := Lib.hid fun w ⟨m, hm⟩ => by
      have := Try.strings_Index (x.extract 1 x.size) (x.extract 0 (x.size - p)) m w (by simp; omega) hm
      have e1 : (x.extract 1 x.size).data.toList = (bl x).drop 1 := bl_drop x 1
      have e2 : (x.extract 0 (x.size - p)).data.toList = (bl x).take (x.size - p) := bl_take x _
      rwa [e1, e2] at this
    have HM := Lib.hid hM
    clear hM
    generalize Lib.index ((bl x).drop 1) ((bl x).take (x.size - p)) = I at *
    generalize x.extract 1 x.size = y1 at *
    generalize x.extract 0 (x.size - p) = y2 at *
    have hpos : decide (p < x.size) = true := decide_eq_true (by omega)
    by_cases hc : 0 < c
    · have hI : I = (x.size : Int) - ((x.size : Int) - (p : Int)) - 1 := by rw [hix.2 hc]; omega
      have HC : Hid ((c : Int) = (x.size : Int) - (p : Int)) := Lib.hid (by rw [hcv.out hc]; omega)
      subst hI
      clear hix
      go_enter Try.func73, Try.ntmps73
      go_wp2_with fail
      refine (CL.out _).mono ?_
      rintro e w1 ⟨rfl, b1⟩
      have HM1 := Lib.hid (HM.out.below b1)
      go_wp2
      go_quiet ((go_at_call 78; exact Calls.quiet_of_same (CI.out _ (HM1.out.drewN _))))
      go_wp2
      go_ret
      exact ⟨by rw [HC.out]; rfl, b1.drewN _⟩
    · have hI : ¬ I = (x.size : Int) - ((x.size : Int) - (p : Int)) - 1 := fun e => hc (hix.1 (by rw [e]; omega))
      have HC : Hid (c = 0) := Lib.hid (by omega)
      clear hix
      go_enter Try.func73, Try.ntmps73
      go_wp2_with fail
      refine (CL.out _).mono ?_
      rintro e w1 ⟨rfl, b1⟩
      have HM1 := Lib.hid (HM.out.below b1)
      go_wp2
      go_quiet ((go_at_call 78; exact Calls.quiet_of_same (CI.out _ (HM1.out.drewN _))))
      go_wp2
      go_ret
      exact ⟨by rw [HC.out]; rfl, b1.drewN _⟩
  · have HC := Lib.hid (cb_zero hne (by rw [bl_len]; exact hb))
    generalize lp (bl x) = p at *
    generalize cb (bl x) = c at *
    have hpos : decide (p < x.size) = false := decide_eq_false (by omega)
    go_enter Try.func73, Try.ntmps73
    go_wp2_with fail
    refine (CL.out _).mono ?_
    rintro e w1 ⟨rfl, b1⟩
    go_wp2
    go_quiet (fail)
    go_wp2
    go_ret
    exact ⟨by rw [HC.out]; rfl, b1.drewN _⟩

set_option maxRecDepth 100000 in
set_option maxHeartbeats 1000000 in
theorem isClosed_any (x : ByteArray) (w : World) (hx : x.size ≤ 60) (hM : MaxOK w) :
    Calls Try.prog 63 #[.string x] w fun e w' => e = .returned (.bool (clB (bl x))) ∧ Below w.heap.size w w' := by
  by_cases h1 : x.size ≤ 1
  · have HC := Lib.hid (clB_short (l := bl x) h1)
    have h1i : (x.size : Int) ≤ 1 := by omega
    go_enter Try.func63, Try.ntmps63
    go_wp2
    go_ret
    exact ⟨by rw [HC.out]; rfl, Below.refl _ _⟩
  · have HC := Lib.hid (clB_long (l := bl x) h1)
    have CB := Lib.hid (closingBorder_any x w hx (by omega) hM)
    have h1i : ¬ (x.size : Int) ≤ 1 := by omega
    generalize cb (bl x) = c at *
    go_enter Try.func63, Try.ntmps63
    go_wp2_with (go_at_call 73; refine CB.out.mono ?_; rintro e w2 ⟨rfl, b2⟩)
    go_ret
    exact ⟨by rw [HC.out]; exact ret_bool (by simp), b2⟩

theorem slice_toC (x : ByteArray) (z : Int) (n : Nat) (hz : z = n) (h : n ≤ x.size) (W : World) :
    (Instr.slice 46 (.string x) none (some (.int .i64 z)) none).run Try.prog W = .ok (.string (x.extract 0 n)) W := by
  subst hz
  have := run_slice_string_h (P := Try.prog) W 46 x Try.underlying46 .i64 (n : Int) (by omega) (by omega)
  simpa using this

set_option maxRecDepth 100000 in
set_option maxHeartbeats 1000000 in
theorem isPriv_any : ∀ (n : Nat) (x : ByteArray) (w : World), x.size ≤ n → x.size ≤ 60 → MaxOK w →
    Calls Try.prog 64 #[.string x] w fun e w' => e = .returned (.bool (prB (bl x))) ∧ Below w.heap.size w w' := by
  intro n
  induction n with
  | zero =>
    intro x w hn hx hM
    have HC := Lib.hid (prB_short (l := bl x) (by rw [bl_len]; omega))
    have h1i : (x.size : Int) ≤ 1 := by omega
    go_enter Try.func64, Try.ntmps64
    go_wp2
    go_ret
    exact ⟨by rw [HC.out]; rfl, Below.refl _ _⟩
  | succ n ih =>
    intro x w hn hx hM
    by_cases h1 : x.size ≤ 1
    · have HC := Lib.hid (prB_short (l := bl x) h1)
      have h1i : (x.size : Int) ≤ 1 := by omega
      clear ih
      go_enter Try.func64, Try.ntmps64
      go_wp2
      go_ret
      exact ⟨by rw [HC.out]; rfl, Below.refl _ _⟩
    · have CB := Lib.hid (closingBorder_any x w hx (by omega) hM)
      have h1i : ¬ (x.size : Int) ≤ 1 := by omega
      have HM := Lib.hid hM
      clear hM
      by_cases hc : 0 < cb (bl x)
      · have hlt := cb_lt hc
        rw [bl_len] at hlt
        have HC := Lib.hid (prB_long (l := bl x) h1 hc)
        have CI : Hid (∀ w, MaxOK w → Calls Try.prog 64 #[.string (x.extract 0 (cb (bl x)))] w fun e w' => e = .returned (.bool (prB ((bl x).take (cb (bl x))))) ∧ Below w.heap.size w w') := Lib.hid fun w hw => by
          have := ih (x.extract 0 (cb (bl x))) w (by simp; omega) (by simp; omega) hw
          rwa [bl_take] at this
        have hsl := fun W => slice_toC x (cb (bl x) : Int) (cb (bl x)) rfl (by omega) W
        have hci : (0 : Int) < (cb (bl x) : Int) := by omega
        clear ih
        generalize x.extract 0 (cb (bl x)) = y at *
        generalize cb (bl x) = c at *
        go_enter Try.func64, Try.ntmps64
        go_wp2_with (first | (go_at_call 73; refine CB.out.mono ?_; rintro e w2 ⟨rfl, b2⟩; have HM2 := Lib.hid (HM.out.below b2)) | (go_at_call 64; refine (CI.out _ HM2.out).mono ?_; rintro e w3 ⟨rfl, b3⟩))
        go_ret
        exact ⟨by rw [HC.out]; rfl, b2.then b3⟩
      · have HC := Lib.hid (prB_none (l := bl x) h1 hc)
        have hci : ¬ (0 : Int) < (cb (bl x) : Int) := by omega
        clear ih
        generalize cb (bl x) = c at *
        go_enter Try.func64, Try.ntmps64
        go_wp2_with (go_at_call 73; refine CB.out.mono ?_; rintro e w2 ⟨rfl, b2⟩)
        go_ret
        exact ⟨by rw [HC.out]; rfl, b2⟩

end Go.Proofs.Ythjbdcoklgnnlaa
