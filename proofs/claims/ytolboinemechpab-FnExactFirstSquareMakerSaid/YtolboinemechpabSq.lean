/- The square that ends first: the program and the model. -/
import Derived.Test.YtolboinemechpabSqPlain
import Derived.Test.YtolboinemechpabLoc
import Derived.Test.YtolboinemechpabFactor
namespace Go.Proofs.Ytolboinemechpab
set_option linter.unusedVariables false
set_option linter.unusedSimpArgs false
open Go.RowKit

theorem slice_two (x : ByteArray) (a b : Int) (n m : Nat) (ha : a = n) (hb : b = m) (h : n ≤ m) (hm : m ≤ x.size) (W : World) :
    (Instr.slice 9 (.string x) (some (.int .i64 a)) (some (.int .i64 b)) none).run Try.prog W = .ok (.string (x.extract n m)) W := by
  subst ha hb
  have := slice_mid x n (m - n) (by omega) W
  rw [show (n : Int) + ((m - n : Nat) : Int) = (m : Int) by omega, show n + (m - n) = m by omega] at this
  exact this

set_option maxRecDepth 100000 in
set_option maxHeartbeats 1000000 in
theorem squareAtEnd_any (x : ByteArray) (w : World) (hx : x.size ≤ 61) :
    Calls Try.prog 142 #[.string x] w fun e w' => e = .returned (.int .i64 (sa (bl x) x.size : Int)) ∧ Below w.heap.size w w' := by
  obtain ⟨R, hR⟩ : ∃ R, sa (bl x) x.size = R := ⟨_, rfl⟩
  rw [hR]
  have HR0 : Hid (saF (bl x) x.size 1 (x.size / 2) = R) := Lib.hid hR
  clear hR
  go_enter Try.func142, Try.ntmps142
  go_wp2
  go_loopg [4] (x.size / 2) (fun g s4 wr => ∃ q : Nat, 0 < q ∧ q + g = x.size / 2 + 1 ∧ s4 = .int .i64 (q : Int) ∧ Below w.heap.size w wr ∧ Hid (saF (bl x) x.size q g = R))
  case atStart => exact ⟨1, by omega, by omega, rfl, Below.refl _ _, HR0⟩
  case round =>
    obtain ⟨q, hq, hg, rfl, hB, HR⟩ := hrel
    clear HR0
    by_cases hp : 2 * q ≤ x.size
    · obtain ⟨g, rfl⟩ : ∃ g, gk = g + 1 := ⟨gk - 1, by omega⟩
      have hs1 := fun W => slice_two x ((x.size : Int) - 2 * (q : Int)) ((x.size : Int) - (q : Int)) (x.size - 2 * q) (x.size - q) (by omega) (by omega) (by omega) (by omega) W
      have hs2 := fun W => slice_from x ((x.size : Int) - (q : Int)) (x.size - q) (by omega) (by omega) W
      have hpt := rep_text x q x.size rfl hp
      by_cases he : repB (bl x) (x.size - 2 * q) q q = true
      · have hteq := teq_yes (hpt.2 he)
        have HV : Hid (R = q) := Lib.hid (by rw [← HR.out, saF_hit he])
        clear he hpt
        go_wp2
        go_quiet (fail)
        go_wp2
        go_ret
        exact ⟨by rw [HV.out]; rfl, hB.drewN _⟩
      · have he2 : repB (bl x) (x.size - 2 * q) q q = false := by simpa using he
        have hteq := teq_no (fun h => he (hpt.1 h))
        have HN : Hid (saF (bl x) x.size (q + 1) g = R) := Lib.hid (by rw [← HR.out, saF_miss he2])
        clear he he2 hpt
        go_wp2
        go_quiet (fail)
        go_wp2
        go_roundg g
        case measure => omega
        case rel => exact ⟨q + 1, by omega, by omega, by go_num, hB.drewN _, HN⟩
    · obtain rfl : gk = 0 := by omega
      have HV : Hid (R = 0) := Lib.hid (by rw [← HR.out]; rfl)
      go_wp2
      go_ret
      exact ⟨by rw [HV.out]; rfl, hB⟩

set_option maxRecDepth 100000 in
set_option maxHeartbeats 1000000 in
theorem firstSquare_any (x : ByteArray) (w : World) (hx : x.size ≤ 60) :
    Calls Try.prog 143 #[.string x] w fun e w' => e = .returned (.tuple #[.int .i64 ((fs (bl x)).1 : Int), .int .i64 ((fs (bl x)).2 : Int)]) ∧ Below w.heap.size w w' := by
  obtain ⟨R, hR⟩ : ∃ R, fs (bl x) = R := ⟨_, rfl⟩
  rw [hR]
  have HR0 : Hid (fsF (bl x) 0 (x.size + 1) = R) := Lib.hid hR
  clear hR
  go_enter Try.func143, Try.ntmps143
  go_wp2
  go_loopg [9] (x.size + 1) (fun g s9 wr => ∃ n : Nat, n + g = x.size + 1 ∧ s9 = .int .i64 (n : Int) ∧ Below w.heap.size w wr ∧ Hid (fsF (bl x) n g = R))
  case atStart => exact ⟨0, by omega, rfl, Below.refl _ _, HR0⟩
  case round =>
    obtain ⟨n, hg, rfl, hB, HR⟩ := hrel
    clear HR0
    by_cases hp : n ≤ x.size
    · obtain ⟨g, rfl⟩ : ∃ g, gk = g + 1 := ⟨gk - 1, by omega⟩
      have hs1 := fun W => slice_to x (n : Int) n rfl hp W
      have z1 : (x.extract 0 n).size = n := by simp; omega
      have CP := fun w => squareAtEnd_any (x.extract 0 n) w (by omega)
      rw [z1, bl_take, sa_take (by rw [bl_len]; exact hp)] at CP
      have CP2 := Lib.hid CP
      clear CP
      generalize x.extract 0 n = y at *
      by_cases he : sa (bl x) n = 0
      · have HN : Hid (fsF (bl x) (n + 1) g = R) := Lib.hid (by rw [← HR.out, fsF_miss he])
        rw [he] at CP2
        clear he
        go_wp2_with fail
        refine (CP2.out _).mono ?_
        rintro e w1 ⟨rfl, b1⟩
        go_wp2_with fail
        go_roundg g
        case measure => omega
        case rel => exact ⟨n + 1, by omega, by go_num, hB.then b1, HN⟩
      · have hsm := sa_some he
        have h2 := hsm.1
        have h3 := hsm.2.1
        have HV : Hid (R = (n - 2 * sa (bl x) n, sa (bl x) n)) := Lib.hid (by rw [← HR.out, fsF_hit he])
        clear he hsm
        generalize sa (bl x) n = q at *
        go_wp2_with fail
        refine (CP2.out _).mono ?_
        rintro e w1 ⟨rfl, b1⟩
        go_wp2_with fail
        go_ret2
        have hsub : ((n - 2 * q : Nat) : Int) = (n : Int) - 2 * (q : Int) := by omega
        exact ⟨by rw [HV.out]; show _ = Ending.returned (.tuple #[.int .i64 ((n - 2 * q : Nat) : Int), .int .i64 (q : Int)]); rw [hsub]; rfl, hB.then b1⟩
    · obtain rfl : gk = 0 := by omega
      have HV : Hid (R = (0, 0)) := Lib.hid (by rw [← HR.out]; rfl)
      go_wp2
      go_ret2
      exact ⟨by rw [HV.out]; rfl, hB⟩

set_option maxRecDepth 100000 in
theorem isSquareFree_any (x : ByteArray) (w : World) (hx : x.size ≤ 60) :
    Calls Try.prog 105 #[.string x] w fun e w' => e = .returned (.bool (decide ((fs (bl x)).2 = 0))) ∧ Below w.heap.size w w' := by
  have CP := Lib.hid fun w => firstSquare_any x w hx
  generalize fs (bl x) = R at *
  obtain ⟨R1, R2⟩ := R
  by_cases he : R2 = 0
  · subst he
    go_enter Try.func105, Try.ntmps105
    go_wp2_with fail
    refine (CP.out _).mono ?_
    rintro e w1 ⟨rfl, b1⟩
    go_wp2_with fail
    go_ret
    exact ⟨rfl, b1⟩
  · have h2 : ¬ (R2 : Int) = 0 := by omega
    have HE := Lib.hid he
    clear he
    go_enter Try.func105, Try.ntmps105
    go_wp2_with fail
    refine (CP.out _).mono ?_
    rintro e w1 ⟨rfl, b1⟩
    go_wp2_with fail
    go_ret
    exact ⟨ret_bool (by simp [HE.out, h2]), b1⟩

/-! ### The exported ones. -/
end Go.Proofs.Ytolboinemechpab
