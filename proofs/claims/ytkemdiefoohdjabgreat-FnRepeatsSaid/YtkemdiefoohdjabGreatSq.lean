/- The square that ends first: the program and the model. -/
import Derived.Test.YtkemdiefoohdjabGreatSqPlain
import Derived.Test.YtkemdiefoohdjabGreatLoc
import Derived.Test.YtkemdiefoohdjabGreatFactor
namespace Go.Proofs.YtkemdiefoohdjabGreat
set_option linter.unusedVariables false
set_option linter.unusedSimpArgs false
open Go.RowKit

theorem slice_two (x : ByteArray) (a b : Int) (n m : Nat) (ha : a = n) (hb : b = m) (h : n ≤ m) (hm : m ≤ x.size) (W : World) :
    (Instr.slice 9 (.string x) (some (.int .i64 a)) (some (.int .i64 b)) none).run Tryz.prog W = .ok (.string (x.extract n m)) W := by
  subst ha hb
  have := slice_mid x n (m - n) (by omega) W
  rw [show (n : Int) + ((m - n : Nat) : Int) = (m : Int) by omega, show n + (m - n) = m by omega] at this
  exact this

set_option maxRecDepth 100000 in
set_option maxHeartbeats 1000000 in
theorem squareAtEnd_any (x : ByteArray) (w : World) (hx : x.size ≤ 61) :
    Calls Tryz.prog 64 #[.string x] w fun e w' => e = .returned (.int .i64 (sa (bl x) x.size : Int)) ∧ Below w.heap.size w w' := by
  obtain ⟨R, hR⟩ : ∃ R, sa (bl x) x.size = R := ⟨_, rfl⟩
  rw [hR]
  have HR0 : Hid (saF (bl x) x.size 1 (x.size / 2) = R) := Lib.hid hR
  clear hR
  go_enter Tryz.func64, Tryz.ntmps64
  go_wp2
  go_loopg [4] (x.size / 2) (fun g s4 wr => ∃ q : Nat, 0 < q ∧ q + g = x.size / 2 + 1 ∧ s4 = .int .i64 (q : Int) ∧ Below w.heap.size w wr ∧ Hid (saF (bl x) x.size q g = R))
  case atStart => exact ⟨1, by omega, by omega, rfl, Below.refl _ _, HR0⟩
  case round =>
    obtain ⟨q, hq, hg, rfl, hB, HR⟩ := hrel
    clear HR0
    by_cases hp : 2 * q ≤ x.size
    · obtain ⟨g, rfl⟩ : ∃ g, gk = g + 1 := ⟨gk - 1, by omega⟩
      have hs1 := fun W => slice_two x ((x.size : Int) - 2 * (q : Int)) ((x.size : Int) - (q : Int)) (x.size - 2 * q) (x.size - q) (by omega) (by omega) (by omega) (by omega) W
      have hs2 := fun W => slice_from x ((x.size : Int) - (q : Int)) (x.size - q) (by omega) (by omega) W
      have hpt := rep_text x q x.size rfl hp
      by_cases he : repB (bl x) (x.size - 2 * q) q q = true
      · have hteq := teq_yes (hpt.2 he)
        have HV : Hid (R = q) := Lib.hid (by rw [← HR.out, saF_hit he])
        clear he hpt
        go_wp2
        go_quiet (fail)
        go_wp2
        go_ret
        exact ⟨by rw [HV.out]; rfl, hB.drewN _⟩
      · have he2 : repB (bl x) (x.size - 2 * q) q q = false := by simpa using he
        have hteq := teq_no (fun h => he (hpt.1 h))
        have HN : Hid (saF (bl x) x.size (q + 1) g = R) := Lib.hid (by rw [← HR.out, saF_miss he2])
        clear he he2 hpt
        go_wp2
        go_quiet (fail)
        go_wp2
        go_roundg g
        case measure => omega
        case rel => exact ⟨q + 1, by omega, by omega, by go_num, hB.drewN _, HN⟩
    · obtain rfl : gk = 0 := by omega
      have HV : Hid (R = 0) := Lib.hid (by rw [← HR.out]; rfl)
      go_wp2
      go_ret
      exact ⟨by rw [HV.out]; rfl, hB⟩

set_option maxRecDepth 100000 in
set_option maxHeartbeats 1000000 in
theorem firstSquare_any (x : ByteArray) (w : World) (hx : x.size ≤ 60) :
    Calls Tryz.prog 44 #[.string x] w fun e w' => e = .returned (.tuple #[.int .i64 ((fs (bl x)).1 : Int), .int .i64 ((fs (bl x)).2 : Int)]) ∧ Below w.heap.size w w' := by
  obtain ⟨R, hR⟩ : ∃ R, fs (bl x) = R := ⟨_, rfl⟩
  rw [hR]
  have HR0 : Hid (fsF (bl x) 0 (x.size + 1) = R) := Lib.hid hR
  clear hR
  go_enter Tryz.func44, Tryz.ntmps44
  go_wp2
  go_loopg [9] (x.size + 1) (fun g s9 wr => ∃ n : Nat, n + g = x.size + 1 ∧ s9 = .int .i64 (n : Int) ∧ Below w.heap.size w wr ∧ Hid (fsF (bl x) n g = R))
  case atStart => exact ⟨0, by omega, rfl, Below.refl _ _, HR0⟩
  case round =>
    obtain ⟨n, hg, rfl, hB, HR⟩ := hrel
    clear HR0
    by_cases hp : n ≤ x.size
    · obtain ⟨g, rfl⟩ : ∃ g, gk = g + 1 := ⟨gk - 1, by omega⟩
      have hs1 := fun W => slice_to x (n : Int) n rfl hp W
      have z1 : (x.extract 0 n).size = n := by simp; omega
      have CP := fun w => squareAtEnd_any (x.extract 0 n) w (by omega)
      rw [z1, bl_take, sa_take (by rw [bl_len]; exact hp)] at CP
      have CP2 := Lib.hid CP
      clear CP
      generalize x.extract 0 n = y at *
      by_cases he : sa (bl x) n = 0
      · have HN : Hid (fsF (bl x) (n + 1) g = R) := Lib.hid (by rw [← HR.out, fsF_miss he])
        rw [he] at CP2
        clear he
        go_wp2_with fail
        refine (CP2.out _).mono ?_
        rintro e w1 ⟨rfl, b1⟩
        go_wp2_with fail
        go_roundg g
        case measure => omega
        case rel => exact ⟨n + 1, by omega, by go_num, hB.then b1, HN⟩
      · have hsm := sa_some he
        have h2 := hsm.1
        have h3 := hsm.2.1
        have HV : Hid (R = (n - 2 * sa (bl x) n, sa (bl x) n)) := Lib.hid (by rw [← HR.out, fsF_hit he])
        clear he hsm
        generalize sa (bl x) n = q at *
        go_wp2_with fail
        refine (CP2.out _).mono ?_
        rintro e w1 ⟨rfl, b1⟩
        go_wp2_with fail
        go_ret2
        have hsub : ((n - 2 * q : Nat) : Int) = (n : Int) - 2 * (q : Int) := by omega
        exact ⟨by rw [HV.out]; show _ = Ending.returned (.tuple #[.int .i64 ((n - 2 * q : Nat) : Int), .int .i64 (q : Int)]); rw [hsub]; rfl, hB.then b1⟩
    · obtain rfl : gk = 0 := by omega
      have HV : Hid (R = (0, 0)) := Lib.hid (by rw [← HR.out]; rfl)
      go_wp2
      go_ret2
      exact ⟨by rw [HV.out]; rfl, hB⟩

set_option maxRecDepth 100000 in
theorem isSquareFree_any (x : ByteArray) (w : World) (hx : x.size ≤ 60) :
    Calls Tryz.prog 43 #[.string x] w fun e w' => e = .returned (.bool (decide ((fs (bl x)).2 = 0))) ∧ Below w.heap.size w w' := by
  have CP := Lib.hid fun w => firstSquare_any x w hx
  generalize fs (bl x) = R at *
  obtain ⟨R1, R2⟩ := R
  by_cases he : R2 = 0
  · subst he
    go_enter Tryz.func43, Tryz.ntmps43
    go_wp2_with fail
    refine (CP.out _).mono ?_
    rintro e w1 ⟨rfl, b1⟩
    go_wp2_with fail
    go_ret
    exact ⟨rfl, b1⟩
  · have h2 : ¬ (R2 : Int) = 0 := by omega
    have HE := Lib.hid he
    clear he
    go_enter Tryz.func43, Tryz.ntmps43
    go_wp2_with fail
    refine (CP.out _).mono ?_
    rintro e w1 ⟨rfl, b1⟩
    go_wp2_with fail
    go_ret
    exact ⟨ret_bool (by simp [HE.out, h2]), b1⟩

set_option maxRecDepth 100000 in
set_option maxHeartbeats 1000000 in
theorem l03Power_any (x : ByteArray) (i q P : Nat) (kk : Int) (w : World) (hx : x.size ≤ 61) (hi : i ≤ 61) (hq : 0 < q) (hq2 : q ≤ 61) (hk : 0 ≤ kk) (hk2 : kk ≤ 60) (hP : (q : Int) * kk = (P : Int)) (hPq : q ≤ P) (hP2 : P ≤ 4000) :
    Calls Tryz.prog 59 #[.string x, .int .i64 (i : Int), .int .i64 (q : Int), .int .i64 kk] w fun e w' => e = .returned (.bool (repB (bl x) i q (P - q))) ∧ Below w.heap.size w w' := by
  by_cases hl : i + P ≤ x.size
  · have hP0 : (0 : Int) ≤ (q : Int) * kk := by omega
    go_enter Tryz.func59, Tryz.ntmps59
    go_wp2
    go_loopg [9] (P - q) (fun g s9 wr => ∃ j : Nat, j + g = P - q ∧ s9 = .int .i64 ((i : Int) + (j : Int)) ∧ Below w.heap.size w wr ∧ Hid (RepUp (bl x) i q j))
    case atStart => exact ⟨0, by omega, by simp, Below.refl _ _, Lib.hid (RepUp.start _ _ _)⟩
    case round =>
      obtain ⟨j, hj, rfl, hB, HU⟩ := hrel
      by_cases hc : j < P - q
      · obtain ⟨g, rfl⟩ : ∃ g, gk = g + 1 := ⟨gk - 1, by omega⟩
        have z1 : i + j < x.size := by omega
        have z2 : i + j + q < x.size := by omega
        have hle := letter_eq x (i + j) (i + j + q) z1 z2
        have hix1 : ∀ W, (Instr.index 9 (.string x) (.int .i64 ((i : Int) + (j : Int)))).run Tryz.prog W = .ok (.int .u8 ((x[i + j]'z1).toNat : Int)) W := fun W => index_at x _ (i + j) (by omega) (by omega) W
        have hix2 : ∀ W, (Instr.index 9 (.string x) (.int .i64 ((i : Int) + (j : Int) + (q : Int)))).run Tryz.prog W = .ok (.int .u8 ((x[i + j + q]'z2).toNat : Int)) W := fun W => index_at x _ (i + j + q) (by omega) (by omega) W
        generalize (x[i + j]'z1).toNat = a at hle hix1
        generalize (x[i + j + q]'z2).toNat = b at hle hix2
        have hcc : (i : Int) + (j : Int) + (q : Int) < (i : Int) + (P : Int) := by omega
        by_cases he : a = b
        · have HL := Lib.hid (HU.out.succ (hle.1 he))
          have hee : (a : Int) = (b : Int) := by omega
          clear hle he
          go_wp2
          go_quiet (fail)
          go_wp2
          go_roundg g
          case measure => omega
          case rel => exact ⟨j + 1, by omega, by go_num, hB.drewN _, HL⟩
        · have hee : ¬ (a : Int) = (b : Int) := by omega
          have HN := Lib.hid (rep_miss (l := bl x) hc (fun h => he (hle.2 h)))
          clear hle he
          go_wp2
          go_quiet (fail)
          go_wp2
          go_ret
          exact ⟨by rw [HN.out]; rfl, hB.drewN _⟩
      · have HV : Hid (repB (bl x) i q (P - q) = true) := Lib.hid (by
          obtain rfl : j = P - q := by omega
          exact HU.out.done (by rw [bl_len]; omega))
        have hcc : ¬ (i : Int) + (j : Int) + (q : Int) < (i : Int) + (P : Int) := by omega
        go_wp2
        go_ret
        exact ⟨by rw [HV.out]; rfl, hB⟩
  · have hlo := rep_long (l := bl x) (i := i) (q := q) (e := P - q) (by rw [bl_len]; omega)
    have HL := Lib.hid hlo
    have hl2 : (x.size : Int) < (i : Int) + (P : Int) := by omega
    clear hlo
    go_enter Tryz.func59, Tryz.ntmps59
    go_wp2
    go_ret
    exact ⟨by rw [HL.out]; rfl, Below.refl _ _⟩

set_option maxRecDepth 100000 in
set_option maxHeartbeats 2000000 in
theorem l03First_any (x : ByteArray) (f m : Nat) (w : World) (hx : x.size ≤ 61) (hf : f ≤ 61) (hm : (m : Int) = max (f : Int) 2) :
    Calls Tryz.prog 71 #[.string x, .int .i64 (f : Int)] w fun e w' => e = .returned (.tuple #[.int .i64 ((fsF (bl x) m (x.size + 1 - m)).1 : Int), .int .i64 ((fsF (bl x) m (x.size + 1 - m)).2 : Int), .bool (decide (¬ (fsF (bl x) m (x.size + 1 - m)).2 = 0))]) ∧ Below w.heap.size w w' := by
  obtain ⟨R, hR⟩ : ∃ R, fsF (bl x) m (x.size + 1 - m) = R := ⟨_, rfl⟩
  rw [hR]
  have HR0 : Hid (fsF (bl x) m (x.size + 1 - m) = R) := Lib.hid hR
  have hm2 : 2 ≤ m := by omega
  have hm61 : m ≤ 61 := by omega
  have HM := Lib.hid hm
  clear hR hm
  go_enter Tryz.func71, Tryz.ntmps71
  go_wp2
  rw [← HM.out]
  go_loopg [7] (x.size + 1 - m) (fun g s7 wr => ∃ n : Nat, 2 ≤ n ∧ n ≤ 62 ∧ (n ≤ x.size ∨ g = 0) ∧ (n ≤ x.size → n + g = x.size + 1) ∧ s7 = .int .i64 (n : Int) ∧ Below w.heap.size w wr ∧ Hid (fsF (bl x) n g = R))
  case atStart => exact ⟨m, hm2, by omega, by omega, by omega, rfl, Below.refl _ _, HR0⟩
  case round =>
    obtain ⟨n, hn2, hn62, hor, hg, rfl, hB, HR⟩ := hrel
    clear HR0
    by_cases hp : n ≤ x.size
    · obtain ⟨g, rfl⟩ : ∃ g, gk = g + 1 := ⟨gk - 1, by omega⟩
      go_wp2
      go_loopg [8] (n / 2) (fun g2 s8 wr => ∃ q : Nat, 0 < q ∧ q + g2 = n / 2 + 1 ∧ s8 = .int .i64 (q : Int) ∧ Below w.heap.size w wr ∧ Hid (saF (bl x) n q g2 = sa (bl x) n))
      case atStart => exact ⟨1, by omega, by omega, rfl, hB, Lib.hid rfl⟩
      case round =>
        clear hB
        obtain ⟨q, hq, hg2, rfl, hB, HQ⟩ := hrel
        by_cases hp2 : 2 * q ≤ n
        · obtain ⟨g2, rfl⟩ : ∃ g2, gk = g2 + 1 := ⟨gk - 1, by omega⟩
          have CP := fun w => l03Power_any x (n - 2 * q) q (2 * q) 2 w hx (by omega) hq (by omega) (by omega) (by omega) (by omega) (by omega) (by omega)
          have hsub : ((n - 2 * q : Nat) : Int) = (n : Int) - 2 * (q : Int) := by omega
          rw [hsub, show 2 * q - q = q by omega] at CP
          by_cases he : repB (bl x) (n - 2 * q) q q = true
          · have HV : Hid (R = (n - 2 * q, q)) := Lib.hid (by
              have h1 : sa (bl x) n = q := by rw [← HQ.out, saF_hit he]
              rw [← HR.out, fsF_hit (by omega), h1])
            have HS := Lib.hid hsub
            have HQ0 := Lib.hid hq
            rw [he] at CP
            have CP2 := Lib.hid CP
            clear he CP hsub
            go_wp2_with fail
            refine (CP2.out _).mono ?_
            rintro e w1 ⟨rfl, b1⟩
            go_wp2_with fail
            go_ret3
            refine ⟨?_, hB.then b1⟩
            have hd : decide (¬ q = 0) = true := by rw [decide_eq_true_eq]; have := HQ0.out; omega
            rw [HV.out]
            show _ = Ending.returned (.tuple #[.int .i64 ((n - 2 * q : Nat) : Int), .int .i64 (q : Int), .bool (decide (¬ q = 0))])
            rw [HS.out, hd]
            rfl
          · have he2 : repB (bl x) (n - 2 * q) q q = false := by simpa using he
            have HN : Hid (saF (bl x) n (q + 1) g2 = sa (bl x) n) := Lib.hid (by rw [← HQ.out, saF_miss he2])
            rw [he2] at CP
            have CP2 := Lib.hid CP
            clear he he2 CP hsub
            go_wp2_with fail
            refine (CP2.out _).mono ?_
            rintro e w1 ⟨rfl, b1⟩
            go_wp2_with fail
            go_roundg g2
            case measure => omega
            case rel => exact ⟨q + 1, by omega, by omega, by go_num, hB.then b1, HN⟩
        · obtain rfl : gk = 0 := by omega
          have HN : Hid (fsF (bl x) (n + 1) g = R) := Lib.hid (by
            have h1 : sa (bl x) n = 0 := by rw [← HQ.out]; rfl
            rw [← HR.out, fsF_miss h1])
          go_wp2
          go_roundg g
          case measure => omega
          case rel => exact ⟨n + 1, by omega, by omega, by omega, by omega, by go_num, hB, HN⟩
    · obtain rfl : gk = 0 := by omega
      have HV : Hid (R = (0, 0)) := Lib.hid (by rw [← HR.out]; rfl)
      go_wp2
      go_ret3
      exact ⟨by rw [HV.out]; rfl, hB⟩

/-! ### The exported ones. -/
set_option maxRecDepth 100000 in
theorem impl_FirstSquare (x : ByteArray) (w : World) (sx : x.size ≤ maxLen) :
    Calls Tryz.prog 19 #[.string x] w fun e w' => e = .returned (.tuple #[.int .i64 (fsqR x).1, .int .i64 (fsqR x).2.1, .int .i64 (fsqR x).2.2]) ∧ Below w.heap.size w w' := by
  by_cases h : IsW x
  · have h1 := h.size
    have CP := Lib.hid fun w => firstSquare_any x w h1
    by_cases h0 : (fs (bl x)).2 = 0
    · rw [fsqR_none h h0]
      have H := Lib.hid h
      rw [fs_zero h0] at CP
      clear h h0
      go_enter Tryz.func19, Tryz.ntmps19
      go_wp2_with fail
      refine (isWord_yes x _ H.out).mono ?_
      rintro e w1 ⟨rfl, b1⟩
      go_wp2_with fail
      refine (CP.out _).mono ?_
      rintro e w2 ⟨rfl, b2⟩
      go_wp2_with fail
      go_ret3
      exact ⟨rfl, b1.then b2⟩
    · rw [fsqR_ok h h0]
      have H := Lib.hid h
      clear h
      generalize fs (bl x) = R at *
      obtain ⟨R1, R2⟩ := R
      have h2 : ¬ (R2 : Int) = 0 := by simp at h0; omega
      clear h0
      go_enter Tryz.func19, Tryz.ntmps19
      go_wp2_with fail
      refine (isWord_yes x _ H.out).mono ?_
      rintro e w1 ⟨rfl, b1⟩
      go_wp2_with fail
      refine (CP.out _).mono ?_
      rintro e w2 ⟨rfl, b2⟩
      go_wp2_with fail
      go_ret3
      exact ⟨rfl, b1.then b2⟩
  · rw [fsqR_bad h]
    have H := Lib.hid h
    clear h
    go_enter Tryz.func19, Tryz.ntmps19
    go_wp2_with fail
    refine (isWord_not x _ sx H.out).mono ?_
    rintro e w1 ⟨rfl, b1⟩
    go_wp2_with fail
    go_ret3
    exact ⟨rfl, b1⟩

set_option maxRecDepth 100000 in
theorem impl_IsSquareFree (x : ByteArray) (w : World) (sx : x.size ≤ maxLen) :
    Calls Tryz.prog 17 #[.string x] w fun e w' => e = .returned (.tuple #[.bool (isfR x).1, .int .i64 (isfR x).2]) ∧ Below w.heap.size w w' := by
  by_cases h : IsW x
  · rw [isfR_ok h]
    have h1 := h.size
    have H := Lib.hid h
    clear h
    go_enter Tryz.func17, Tryz.ntmps17
    go_wp2_with fail
    refine (isWord_yes x _ H.out).mono ?_
    rintro e w1 ⟨rfl, b1⟩
    go_wp2_with fail
    refine (isSquareFree_any x _ h1).mono ?_
    rintro e w2 ⟨rfl, b2⟩
    go_wp2_with fail
    go_ret2
    exact ⟨rfl, b1.then b2⟩
  · rw [isfR_bad h]
    have H := Lib.hid h
    clear h
    go_enter Tryz.func17, Tryz.ntmps17
    go_wp2_with fail
    refine (isWord_not x _ sx H.out).mono ?_
    rintro e w1 ⟨rfl, b1⟩
    go_wp2_with fail
    go_ret2
    exact ⟨rfl, b1⟩

theorem l03First_zero (x : ByteArray) (w : World) (hx : x.size ≤ 60) :
    Calls Tryz.prog 71 #[.string x, .int .i64 0] w fun e w' => e = .returned (.tuple #[.int .i64 ((fs (bl x)).1 : Int), .int .i64 ((fs (bl x)).2 : Int), .bool (decide (¬ (fs (bl x)).2 = 0))]) ∧ Below w.heap.size w w' := by
  rw [fs_two]
  exact l03First_any x 0 2 w (by omega) (by omega) (by decide)

end Go.Proofs.YtkemdiefoohdjabGreat
