/- The same factors: the model. -/
import Derived.Test.YtbhgghajbdlfkabGreatFactorsS
import Derived.Test.YtbhgghajbdlfkabGreatHe
import Derived.Deep.QuietTactic
import Derived.BigQuiet
namespace Go.Proofs.YtbhgghajbdlfkabGreat
set_option linter.unusedVariables false
set_option linter.unusedSimpArgs false
open Go.RowKit

set_option maxRecDepth 100000 in
set_option maxHeartbeats 1000000 in
theorem spec_HaveEqualFactors_ok (x u : ByteArray) (m : Nat) (w : World) (h : IsW x ∧ IsW u) (hm : m ≤ 60) :
    Calls Tryz.prog 30 #[.string x, .string u, .int .i64 (m : Int)] w fun e w' => e = .returned (.tuple #[.bool (decide (facs x m = facs u m)), .int .i64 0]) ∧ Below w.heap.size w w' := by
  have hmo : Tryz.prog.follows .mixedOrders = true := by kernel_rfl
  have lx : (facs x m).length ≤ 61 := by have := facs_len x m; have := h.1.size; omega
  have lu : (facs u m).length ≤ 61 := by have := facs_len u m; have := h.2.size; omega
  have HX := Lib.hid fun w => l01Factors_any x m w h.1.size hm
  have HU := Lib.hid fun w => l01Factors_any u m w h.2.size hm
  have H := Lib.hid h
  clear h
  change Hid (∀ w, Calls _ _ _ w fun e w' => ∃ v, e = .returned v ∧ OwnS w' w.heap.size v (facs x m) ∧ Below w.heap.size w w') at HX
  change Hid (∀ w, Calls _ _ _ w fun e w' => ∃ v, e = .returned v ∧ OwnS w' w.heap.size v (facs u m) ∧ Below w.heap.size w w') at HU
  generalize facs x m = L at *
  generalize facs u m = M at *
  obtain ⟨d, HD⟩ : ∃ d, Hid (decide (L = M) = d) := ⟨_, Lib.hid rfl⟩
  rw [HD.out]
  by_cases hl : L.length = M.length
  · go_enter Tryz.func30, Tryz.ntmps30
    go_wp2_with fail
    refine (l01Is_yes x _ H.out.1).mono ?_
    rintro e w1 ⟨rfl, b1⟩
    go_wp2_with fail
    refine (l01Is_yes u _ H.out.2).mono ?_
    rintro e w2 ⟨rfl, b2⟩
    go_wp2_with fail
    refine (l01In_yes _ _ _ _ (by omega) (by omega)).mono ?_
    rintro e w3 ⟨rfl, b3⟩
    go_wp2_with fail
    refine (HX.out _).mono ?_
    rintro e w4 ⟨v4, rfl, o4, b4⟩
    go_wp2_with fail
    refine (HU.out _).mono ?_
    rintro e w5 ⟨v5, rfl, o5, b5⟩
    have o4 := OwnS.below o4 b5
    have B : Below w.heap.size w w5 := (((b1.then b2).then b3).then b4).then b5
    have HLL := Lib.hid hl
    obtain ⟨a4, c4, rfl, k4⟩ := o4.lookH
    obtain ⟨a5, c5, rfl, k5⟩ := o5.lookH
    have K4 := Lib.hid k4
    have K5 := Lib.hid k5
    have hli : ((L.length : Int) == (M.length : Int)) = true := by rw [hl]; exact beq_self_eq_true _
    clear o4 o5 b1 b2 b3 b4 b5 k4 k5
    rw [← hl] at hli ⊢
    clear hl
    go_wp2
    go_loopg [10] L.length (fun gk i wr => ∃ k : Nat, k + gk = L.length ∧ i = .int .i64 (k : Int) ∧ (∀ j (h1 : j < L.length) (h2 : j < M.length), j < k → L[j]'h1 = M[j]'h2) ∧ Below w.heap.size w wr ∧ Below w5.heap.size w5 wr)
    case atStart => exact ⟨0, by omega, rfl, fun j _ _ h => by omega, B, Below.refl _ _⟩
    case round =>
      obtain ⟨k, hk, rfl, hall, hB, hB5⟩ := hrel
      have HA := Lib.hid hall
      clear hall
      by_cases hp : k < L.length
      · obtain ⟨gq, rfl⟩ : ∃ gq, gk = gq + 1 := ⟨gk - 1, by omega⟩
        have hp2 : k < M.length := by have := HLL.out; omega
        obtain ⟨g4, rfl, q4, h4, r4⟩ := K4.out k hp
        obtain ⟨g5, rfl, q5, h5, r5⟩ := K5.out k hp2
        have r4 := (bcell hB5).1 g4 k q4 |>.trans r4
        have r5 := (bcell hB5).1 g5 k q5 |>.trans r5
        have HE : Hid (L[k]'hp = M[k]'hp2 ∨ ¬ L[k]'hp = M[k]'hp2) := Lib.hid (Classical.em _)
        have HA2 : Hid (L[k]'hp = M[k]'hp2 → ∀ j (h1 : j < L.length) (h2 : j < M.length), j < k + 1 → L[j]'h1 = M[j]'h2) := Lib.hid fun e j h1 h2 h3 => by
          by_cases hjk : j = k
          · subst hjk; exact e
          · exact HA.out j h1 h2 (by omega)
        have HN : Hid (¬ L[k]'hp = M[k]'hp2 → decide (L = M) = false) := Lib.hid fun e => decide_eq_false fun e2 => e (by subst e2; rfl)
        have HK := Lib.hid hk
        generalize L[k]'hp = p at *
        generalize M[k]'hp2 = q at *
        clear hk
        rcases HE.out with e | e
        · subst e
          have hpi : (k : Int) < (L.length : Int) := by omega
          have ht : (p.toList == p.toList) = true := beq_self_eq_true _
          go_wp2
          go_quiet (fail)
          go_wp2
          go_roundg gq
          case measure => omega
          case rel => exact ⟨k + 1, by have := HK.out; omega, by go_num, HA2.out (by first | rfl | trivial), hB.drewN _, hB5.drewN _⟩
        · have ht := teq_no e
          have HNE := Lib.hid (HN.out e)
          have hpi : (k : Int) < (L.length : Int) := by omega
          go_wp2
          go_quiet (fail)
          go_wp2
          go_ret2
          exact ⟨by have e9 := HD.out.symm.trans HNE.out; rw [e9]; rfl, hB.drewN _⟩
      · have hd : decide (L = M) = true := decide_eq_true (List.ext_getElem HLL.out fun j h1 h2 => HA.out j h1 h2 (by omega))
        have HDT := Lib.hid hd
        clear hk hd
        go_wp2
        go_ret2
        exact ⟨by have e9 := HD.out.symm.trans HDT.out; rw [e9]; rfl, hB⟩
  · have hd : decide (L = M) = false := decide_eq_false (fun e => hl (by rw [e]))
    rw [HD.out] at hd
    subst hd
    have hli : ((L.length : Int) == (M.length : Int)) = false := beq_eq_false_iff_ne.2 (by omega)
    clear hl
    go_enter Tryz.func30, Tryz.ntmps30
    go_wp2_with fail
    refine (l01Is_yes x _ H.out.1).mono ?_
    rintro e w1 ⟨rfl, b1⟩
    go_wp2_with fail
    refine (l01Is_yes u _ H.out.2).mono ?_
    rintro e w2 ⟨rfl, b2⟩
    go_wp2_with fail
    refine (l01In_yes _ _ _ _ (by omega) (by omega)).mono ?_
    rintro e w3 ⟨rfl, b3⟩
    go_wp2_with fail
    refine (HX.out _).mono ?_
    rintro e w4 ⟨v4, rfl, o4, b4⟩
    go_wp2_with fail
    refine (HU.out _).mono ?_
    rintro e w5 ⟨v5, rfl, o5, b5⟩
    obtain ⟨a4, c4, rfl⟩ := OwnS.formH o4
    obtain ⟨a5, c5, rfl⟩ := OwnS.formH o5
    have B : Below w.heap.size w w5 := (((b1.then b2).then b3).then b4).then b5
    clear o4 o5
    go_wp2
    go_ret2
    exact ⟨rfl, B⟩

set_option maxRecDepth 100000 in
theorem spec_HaveEqualFactors (x u : ByteArray) (m : Int) (w : World) (sx : x.size ≤ maxLen) (su : u.size ≤ maxLen) (wm : (Lit.int .i64 m).wf = true) :
    Calls Tryz.prog 30 #[.string x, .string u, .int .i64 m] w fun e w' => e = .returned (.tuple #[.bool (heR x u m).1, .int .i64 (heR x u m).2]) ∧ Below w.heap.size w w' := by
  by_cases hx : IsW x
  · by_cases hu : IsW u
    · by_cases ho : m < 0 ∨ 60 < m
      · rw [heR_out ⟨hx, hu⟩ ho]
        have H := Lib.hid (And.intro hx hu)
        have HO := Lib.hid ho
        clear hx hu ho
        go_enter Tryz.func30, Tryz.ntmps30
        go_wp2_with fail
        refine (l01Is_yes x _ H.out.1).mono ?_
        rintro e w1 ⟨rfl, b1⟩
        go_wp2_with fail
        refine (l01Is_yes u _ H.out.2).mono ?_
        rintro e w2 ⟨rfl, b2⟩
        go_wp2_with fail
        refine (l01In_no _ _ _ _ (by have := HO.out; omega)).mono ?_
        rintro e w3 ⟨rfl, b3⟩
        go_wp2_with fail
        go_ret2
        exact ⟨rfl, (b1.then b2).then b3⟩
      · obtain ⟨n, rfl⟩ := Int.eq_ofNat_of_zero_le (show 0 ≤ m by omega)
        rw [heR_ok ⟨hx, hu⟩ (by omega)]
        exact spec_HaveEqualFactors_ok x u n w ⟨hx, hu⟩ (by omega)
    · rw [heR_bad (fun h => hu h.2)]
      have HX := Lib.hid hx
      have HU := Lib.hid hu
      clear hx hu
      go_enter Tryz.func30, Tryz.ntmps30
      go_wp2_with fail
      refine (l01Is_yes x _ HX.out).mono ?_
      rintro e w1 ⟨rfl, b1⟩
      go_wp2_with fail
      refine (l01Is_no u _ su HU.out).mono ?_
      rintro e w2 ⟨rfl, b2⟩
      go_wp2_with fail
      go_ret2
      exact ⟨rfl, b1.then b2⟩
  · rw [heR_bad (fun h => hx h.1)]
    have HX := Lib.hid hx
    clear hx
    go_enter Tryz.func30, Tryz.ntmps30
    go_wp2_with fail
    refine (l01Is_no x _ sx HX.out).mono ?_
    rintro e w1 ⟨rfl, b1⟩
    go_wp2_with fail
    go_ret2
    exact ⟨rfl, b1⟩

end Go.Proofs.YtbhgghajbdlfkabGreat
