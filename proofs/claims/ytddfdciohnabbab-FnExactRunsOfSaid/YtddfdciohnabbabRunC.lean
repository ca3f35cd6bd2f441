/- Runs compared: the program. -/
import Derived.Test.YtddfdciohnabbabRunS
import Derived.Test.YtddfdciohnabbabRunI
import Derived.BigQuiet
import Derived.Deep.QuietTactic
import Derived.StillTailTactics
import Derived.Sort.Grow
namespace Go.Proofs.Ytddfdciohnabbab
set_option linter.unusedVariables false
set_option linter.unusedSimpArgs false
open Go.RowKit Go.Sort

set_option maxRecDepth 100000 in
theorem isNaN_any (a : Int) (w : World) :
    Calls Try.prog 211 #[.int .i64 a] w fun e w' => e = .returned (.bool false) ∧ w' = w := by
  go_enter Try.func211, Try.ntmps211
  go_wp2
  go_ret
  exact ⟨by simp, rfl⟩

set_option maxRecDepth 100000 in
theorem cmpCompare_any (a b : Nat) (w : World) :
    Calls Try.prog 169 #[.int .i64 (a : Int), .int .i64 (b : Int)] w fun e w' => e = .returned (.int .i64 (cmpN a b)) ∧ w' = w := by
  have CN := Lib.hid isNaN_any
  by_cases h1 : a < b
  · have h1i : (a : Int) < (b : Int) := by omega
    have HR : Hid (cmpN a b = -1) := Lib.hid (by unfold cmpN; rw [if_pos h1])
    clear h1
    go_enter Try.func169, Try.ntmps169
    go_wp2_with fail
    refine (CN.out _ _).mono ?_
    rintro e w1 ⟨rfl, rfl⟩
    go_wp2_with fail
    refine (CN.out _ _).mono ?_
    rintro e w2 ⟨rfl, rfl⟩
    go_wp2_with fail
    go_ret
    exact ⟨by rw [HR.out]; rfl, rfl⟩
  · have h1i : ¬ (a : Int) < (b : Int) := by omega
    by_cases h2 : b < a
    · have h2i : (b : Int) < (a : Int) := by omega
      have HR : Hid (cmpN a b = 1) := Lib.hid (by unfold cmpN; rw [if_neg h1, if_pos h2])
      clear h1 h2
      go_enter Try.func169, Try.ntmps169
      go_wp2_with fail
      refine (CN.out _ _).mono ?_
      rintro e w1 ⟨rfl, rfl⟩
      go_wp2_with fail
      refine (CN.out _ _).mono ?_
      rintro e w2 ⟨rfl, rfl⟩
      go_wp2_with fail
      go_ret
      exact ⟨by rw [HR.out]; rfl, rfl⟩
    · have h2i : ¬ (b : Int) < (a : Int) := by omega
      have HR : Hid (cmpN a b = 0) := Lib.hid (by unfold cmpN; rw [if_neg h1, if_neg h2])
      clear h1 h2
      go_enter Try.func169, Try.ntmps169
      go_wp2_with fail
      refine (CN.out _ _).mono ?_
      rintro e w1 ⟨rfl, rfl⟩
      go_wp2_with fail
      refine (CN.out _ _).mono ?_
      rintro e w2 ⟨rfl, rfl⟩
      go_wp2_with fail
      go_ret
      exact ⟨by rw [HR.out]; rfl, rfl⟩

/-- The first of three numbers that is not 0. -/
def or3 (a b c : Int) : Int := if a ≠ 0 then a else if b ≠ 0 then b else c
set_option maxRecDepth 100000 in
set_option maxHeartbeats 1000000 in
theorem cmpOr_any (g : Nat) (a b c : Int) (w : World) (k0 : w.cell? ⟨g, 0, none⟩ = some (.int .i64 a)) (k1 : w.cell? ⟨g, 1, none⟩ = some (.int .i64 b)) (k2 : w.cell? ⟨g, 2, none⟩ = some (.int .i64 c)) :
    Calls Try.prog 168 #[.slice (some ⟨g, 0, none⟩) 3 3] w fun e w' => e = .returned (.int .i64 (or3 a b c)) ∧ w' = w := by
  have C : Hid (∀ i, i < 3 → w.cell? ⟨g, i, none⟩ = some (.int .i64 ([a, b, c].getD i 0))) := Lib.hid fun i hi => by
    rcases (show i = 0 ∨ i = 1 ∨ i = 2 by omega) with rfl | rfl | rfl
    · exact k0
    · exact k1
    · exact k2
  have HR : Hid (∀ i, i < 3 → (∀ j, j < i → [a, b, c].getD j 0 = 0) → [a, b, c].getD i 0 ≠ 0 → or3 a b c = [a, b, c].getD i 0) := Lib.hid fun i hi hz hn => by
    unfold or3
    rcases (show i = 0 ∨ i = 1 ∨ i = 2 by omega) with rfl | rfl | rfl
    · have hn' : a ≠ 0 := hn
      rw [if_pos hn']; rfl
    · have h0 : a = 0 := hz 0 (by omega)
      have hn' : b ≠ 0 := hn
      rw [if_neg (fun e => e h0), if_pos hn']; rfl
    · have h0 : a = 0 := hz 0 (by omega)
      have h1 : b = 0 := hz 1 (by omega)
      rw [if_neg (fun e => e h0), if_neg (fun e => e h1)]; rfl
  have HZ : Hid ((∀ j, j < 3 → [a, b, c].getD j 0 = 0) → or3 a b c = 0) := Lib.hid fun hz => by
    have h0 : a = 0 := hz 0 (by omega)
    have h1 : b = 0 := hz 1 (by omega)
    have h2 : c = 0 := hz 2 (by omega)
    unfold or3
    rw [if_neg (fun e => e h0), if_neg (fun e => e h1)]
    exact h2
  clear k0 k1 k2
  generalize or3 a b c = R at *
  generalize [a, b, c] = L at *
  go_enter Try.func168, Try.ntmps168
  go_wp2
  go_loopg [8] 3 (fun gk s wr => ∃ i : Nat, i + gk = 3 ∧ s = .int .i64 (i : Int) ∧ Hid (∀ j, j < i → L.getD j 0 = 0) ∧ w = wr)
  case atStart => exact ⟨0, by omega, rfl, Lib.hid fun j hj => by omega, rfl⟩
  case round =>
    obtain ⟨i, hig, rfl, HA, hwr⟩ := hrel
    subst hwr
    by_cases hp : i < 3
    · obtain ⟨g1, rfl⟩ : ∃ j, gk = j + 1 := ⟨gk - 1, by omega⟩
      have hpi : (i : Int) < 3 := by omega
      have ck := C.out i hp
      have HRI := Lib.hid (HR.out i hp HA.out)
      have HAS : Hid (L.getD i 0 = 0 → ∀ j, j < i + 1 → L.getD j 0 = 0) := Lib.hid fun e j hj => by
        by_cases q : j = i
        · rw [q]; exact e
        · exact HA.out j (by omega)
      generalize L.getD i 0 = z at *
      by_cases hz : z = 0
      · have HA2 := Lib.hid (HAS.out hz)
        subst hz
        go_wp2
        go_roundg g1
        case measure => omega
        case rel => exact ⟨i + 1, by omega, by go_num, HA2, rfl⟩
      · have HE := Lib.hid (HRI.out hz)
        have hzb : (z != 0) = true := by simp [hz]
        go_wp2
        go_ret
        exact ⟨by rw [HE.out]; rfl, rfl⟩
    · obtain rfl : gk = 0 := by omega
      obtain rfl : i = 3 := by omega
      have HE := Lib.hid (HZ.out HA.out)
      go_wp2
      go_ret
      exact ⟨by rw [HE.out]; rfl, rfl⟩

end Go.Proofs.Ytddfdciohnabbab
