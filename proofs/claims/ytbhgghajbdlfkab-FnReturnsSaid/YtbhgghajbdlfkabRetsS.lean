/- The different return words: the model. -/
import Derived.Test.YtbhgghajbdlfkabRets
import Derived.Test.YtbhgghajbdlfkabGapsS
import Derived.Test.YtbhgghajbdlfkabPut
import Derived.StillTailTactics
namespace Go.Proofs.Ytbhgghajbdlfkab
set_option linter.unusedVariables false
set_option linter.unusedSimpArgs false
open Go.RowKit

theorem posOf_stepsOK {x u : ByteArray} (h : IsW x) (h0 : ¬ u.size = 0) : StepsOK (posOf x u (List.range (x.size + 1 - u.size))) x.size := by
  intro i hi
  have h1 := posOf_step hi
  refine ⟨h1.1, h1.2.1, ?_, h.size⟩
  have h2 := h1.2.2
  omega

set_option maxRecDepth 100000 in
set_option maxHeartbeats 2000000 in
theorem spec_ReturnWords_ok (x u : ByteArray) (w : World) (sx : x.size ≤ maxLen) (su : u.size ≤ maxLen) (h : IsW x ∧ IsW u) (h0 : ¬ u.size = 0) (hj : ¬ (posOf x u (List.range (x.size + 1 - u.size))).length < 2) :
    Calls Try.prog 29 #[.string x, .string u] w (RetS (insA (retW x (posOf x u (List.range (x.size + 1 - u.size))))) 0 w) := by
  have hmo : Try.prog.follows .mixedOrders = true := by kernel_rfl
  have HT := Lib.hid fun w => l05Two_any x u w sx su
  rw [twoC_ok h h0] at HT
  have HC := Lib.hid fun w => l01Places_any x u w h.1.size h.2.size
  have hl := posOf_len60 (u := u) h.1
  have HST := posOf_stepsOK (u := u) h.1 h0
  generalize posOf x u (List.range (x.size + 1 - u.size)) = P at *
  have HST := Lib.hid HST
  have hn : ¬ P.length < 2 := hj
  have hni : ¬ (P.length : Int) < 2 := by omega
  have HRL := Lib.hid (retW_len x P)
  clear h h0 hj
  go_enter Try.func29, Try.ntmps29
  go_wp2_with fail
  refine (HT.out _).mono ?_
  rintro e w1 ⟨rfl, b1⟩
  go_wp2_with fail
  refine (HC.out _).mono ?_
  rintro e w2 ⟨v, rfl, o1, b2⟩
  have o1 : OwnI w2 w1.heap.size v P := o1
  obtain ⟨g, c, rfl, hBg, hg, hc, hm, cell, _⟩ := o1.row (by omega)
  have B2 := b1.then b2
  have C := Lib.hid cell
  have d2 : decide ((P.length : Int) < 2) = false := decide_eq_false (by omega)
  have d3 : decide (P.length < 2) = false := decide_eq_false (by omega)
  clear o1 cell b1 b2
  go_wp2
  go_loopg [8, 9] (P.length - 1) (fun gk o i wr => ∃ (j ga ca : Nat), j + 1 + gk = P.length ∧ i = .int .i64 ((j : Int) + 1) ∧ o = .slice (some ⟨ga, 0, none⟩) (insA ((retW x P).take j)).length ca ∧ OwnS wr w2.heap.size (.slice (some ⟨ga, 0, none⟩) (insA ((retW x P).take j)).length ca) (insA ((retW x P).take j)) ∧ Below w2.heap.size w2 wr)
  case atStart =>
    exact ⟨0, w2.heap.size, 0, by omega, by simp, rfl, World.ownsRow_lit w2 #[] 0 (Nat.le_refl _) (by decide) (by simp), Below.new _ _⟩
  case round =>
    obtain ⟨j, ga, ca, hj, rfl, rfl, hown, hB⟩ := hrel
    have hbz := hB.size
    by_cases hp : j + 1 < P.length
    · obtain ⟨gq, rfl⟩ : ∃ gq, gk = gq + 1 := ⟨gk - 1, by omega⟩
      have HJ := Lib.hid hj
      have k0 : wr.cell? ⟨g, j, none⟩ = some (.int .i64 (P[j]'(by omega))) := by rw [(bcell hB).1 g j hg]; exact C.out j (by omega)
      have k1 : wr.cell? ⟨g, j + 1, none⟩ = some (.int .i64 (P[j + 1]'hp)) := by rw [(bcell hB).1 g (j + 1) hg]; exact C.out (j + 1) hp
      have hst := HST.out j hp
      have HS : Hid (insA ((retW x P).take (j + 1)) = insW (insA ((retW x P).take j)) (x.extract (P[j]'(by omega)).toNat (P[j + 1]'hp).toNat)) := Lib.hid (by rw [retW_take x P j hp, insA_snoc])
      have hasc := asc_insA ((retW x P).take j)
      have hal : (insA ((retW x P).take j)).length ≤ 100 := by
        have := insA_len ((retW x P).take j)
        rw [List.length_take] at this
        omega
      generalize P[j]'(by omega) = a at *
      generalize P[j + 1]'hp = b at *
      generalize insA ((retW x P).take j) = A at *
      obtain ⟨n1, rfl⟩ := Int.eq_ofNat_of_zero_le hst.1
      obtain ⟨m1, rfl⟩ := Int.eq_ofNat_of_zero_le (show 0 ≤ b by omega)
      have hxs := hst.2.2.1
      have hlt := hst.2.1
      have hx60 := hst.2.2.2
      have hys : (x.extract n1 m1).size ≤ 60 := by simp; omega
      have hsl := fun W => slice_ab x (n1 : Int) (m1 : Int) n1 m1 rfl rfl (by omega) (by omega) W
      have HS2 : Hid (insA ((retW x P).take (j + 1)) = insW A (x.extract n1 m1)) := HS
      have HPut := Lib.hid fun (hown' : OwnS wr.drew w2.heap.size (.slice (some ⟨ga, 0, none⟩) A.length ca) A) => l01Put_any w2.heap.size ga ca A (x.extract n1 m1) wr.drew hown' hB.size hasc (by omega) hys
      have HPut2 := Lib.hid (HPut.out hown)
      have hjc : j < c := by omega
      have hjc1 : j + 1 < c := by omega
      have hpi : (j : Int) + 1 < (P.length : Int) := by omega
      have hpj : (j : Int) < (P.length : Int) := by omega
      have hpn : j < P.length := by omega
      have e0 : (0 : Int) ≤ (j : Int) + 1 := by omega
      have e1 : ((j : Int) + 1).toNat = j + 1 := by omega
      have wq1 : IntKind.i64.wrap (j : Int) = (j : Int) := IntWalk.i64_in _ (by omega)
      have hj100 : j ≤ 100 := by omega
      clear hj hst hasc HPut hown HS hlt
      generalize x.extract n1 m1 = y at *
      go_wp2
      go_still_tail 12, hmo
      change wpList _ _ _ _ _ wr.drew
      generalize hwq : wr.drew = wq at *
      go_wp2_with fail
      refine HPut2.out.mono ?_
      rintro e w3 ⟨g3, c3, rfl, hown3, b3⟩
      subst hwq
      have hB3 : Below w2.heap.size w2 w3 := (hB.drew).then b3
      go_wp2_with fail
      go_roundg gq
      case measure => omega
      case rel => exact ⟨j + 1, g3, c3, by have := HJ.out; omega, by go_num, by rw [HS2.out], by rw [HS2.out]; exact hown3, hB3⟩
    · obtain rfl : gk = 0 := by omega
      have hje : j = P.length - 1 := by omega
      have hpi : ¬ (j : Int) + 1 < (P.length : Int) := by omega
      have h3 : (retW x P).take j = retW x P := List.take_of_length_le (by rw [HRL.out]; omega)
      rw [h3] at hown ⊢
      have HO := Lib.hid hown
      clear hown hj hje h3
      go_wp2
      go_ret2
      exact ⟨_, rfl, OwnS.base HO.out B2.size, B2.then hB⟩

set_option maxRecDepth 100000 in
theorem spec_ReturnWords (x u : ByteArray) (w : World) (sx : x.size ≤ maxLen) (su : u.size ≤ maxLen) :
    Calls Try.prog 29 #[.string x, .string u] w (RetS (retsR x u).1 (retsR x u).2 w) := by
  have HT := Lib.hid fun w => l05Two_any x u w sx su
  by_cases h : IsW x ∧ IsW u
  · by_cases h0 : u.size = 0
    · rw [retsR_empty h h0]
      rw [twoC_empty h h0] at HT
      have H := Lib.hid h
      clear h h0
      go_enter Try.func29, Try.ntmps29
      go_wp2_with fail
      refine (HT.out _).mono ?_
      rintro e w1 ⟨rfl, b1⟩
      go_wp2_with fail
      go_ret2
      exact ⟨_, rfl, OwnS.nil _ _, b1⟩
    · by_cases hj : (posOf x u (List.range (x.size + 1 - u.size))).length < 2
      · rw [retsR_none h h0 hj]
        rw [twoC_ok h h0] at HT
        have HC := Lib.hid fun w => l01Places_any x u w h.1.size h.2.size
        generalize posOf x u (List.range (x.size + 1 - u.size)) = P at *
        have hji : (P.length : Int) < 2 := by omega
        have H := Lib.hid h
        clear h h0
        go_enter Try.func29, Try.ntmps29
        go_wp2_with fail
        refine (HT.out _).mono ?_
        rintro e w1 ⟨rfl, b1⟩
        go_wp2_with fail
        refine (HC.out _).mono ?_
        rintro e w2 ⟨v, rfl, o1, b2⟩
        obtain ⟨aI, cI, rfl⟩ := OwnI.formG o1
        clear o1
        go_wp2_with fail
        go_ret2
        exact ⟨_, rfl, OwnS.nil _ _, (b1.then b2).alloc (b1.then b2).size _⟩
      · rw [retsR_ok h h0 hj]
        exact spec_ReturnWords_ok x u w sx su h h0 hj
  · rw [retsR_bad h]
    rw [twoC_bad h] at HT
    have H := Lib.hid h
    clear h
    go_enter Try.func29, Try.ntmps29
    go_wp2_with fail
    refine (HT.out _).mono ?_
    rintro e w1 ⟨rfl, b1⟩
    go_wp2_with fail
    go_ret2
    exact ⟨_, rfl, OwnS.nil _ _, b1⟩

end Go.Proofs.Ytbhgghajbdlfkab
