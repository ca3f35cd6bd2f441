/- Words back to their numbers, cuts: both sides. -/
import Derived.Test.YtddfdciohnabbaaSlo
import Derived.Test.YtddfdciohnabbaaSloPlain
import Derived.Test.YtddfdciohnabbaaMorS
import Derived.Test.YtddfdciohnabbaaPers
import Derived.Test.YtddfdciohnabbaaPlacesPlain
import Derived.Deep.LoopGhost
namespace Go.Proofs.Ytddfdciohnabbaa
set_option linter.unusedVariables false
set_option linter.unusedSimpArgs false
open Go.RowKit

theorem two_lit : ((2 : Nat) : Int) = 2 := rfl
set_option maxRecDepth 100000 in
theorem isWordOfTwo_any (x : ByteArray) (w : World) (sx : x.size ≤ maxLen) :
    Calls Try.prog 46 #[.string x] w fun e w' => e = .returned (.bool (decide (Two x))) ∧ Below w.heap.size w w' := by
  by_cases h : IsW x
  · have CI := Lib.hid fun W => isWord_yes x W h
    by_cases hf : Few 2 x
    · have cf := fun W => hasFirst_yes x 2 W h hf (by omega)
      rw [two_lit] at cf
      have CF := Lib.hid cf
      rw [decide_eq_true (show Two x from ⟨h, hf⟩)]
      clear cf h hf
      go_enter Try.func46, Try.ntmps46
      go_wp2_with fail
      refine (CI.out _).mono ?_
      rintro e w1 ⟨rfl, b1⟩
      go_wp2_with fail
      refine (CF.out _).mono ?_
      rintro e w2 ⟨rfl, b2⟩
      go_wp2_with fail
      go_ret
      exact ⟨rfl, b1.then b2⟩
    · have cf := fun W => hasFirst_no x 2 W h hf (by omega)
      rw [two_lit] at cf
      have CF := Lib.hid cf
      rw [decide_eq_false (show ¬ Two x from fun h2 => hf h2.2)]
      clear cf h hf
      go_enter Try.func46, Try.ntmps46
      go_wp2_with fail
      refine (CI.out _).mono ?_
      rintro e w1 ⟨rfl, b1⟩
      go_wp2_with fail
      refine (CF.out _).mono ?_
      rintro e w2 ⟨rfl, b2⟩
      go_wp2_with fail
      go_ret
      exact ⟨rfl, b1.then b2⟩
  · have CI := Lib.hid fun W => isWord_not x W sx h
    rw [decide_eq_false (show ¬ Two x from fun h2 => h h2.1)]
    clear h
    go_enter Try.func46, Try.ntmps46
    go_wp2_with fail
    refine (CI.out _).mono ?_
    rintro e w1 ⟨rfl, b1⟩
    go_wp2_with fail
    go_ret
    exact ⟨rfl, b1⟩

set_option maxRecDepth 100000 in
theorem l08Is_any (x : ByteArray) (w : World) (sx : x.size ≤ maxLen) :
    Calls Try.prog 44 #[.string x] w fun e w' => e = .returned (.bool (decide (Two x))) ∧ Below w.heap.size w w' := by
  by_cases h : IsW x
  · have CI := Lib.hid fun W => l01Is_yes x W h
    by_cases hf : Few 2 x
    · have cf := fun W => l06Few_yes x 2 W h hf (by omega)
      rw [two_lit] at cf
      have CF := Lib.hid cf
      rw [decide_eq_true (show Two x from ⟨h, hf⟩)]
      clear cf h hf
      go_enter Try.func44, Try.ntmps44
      go_wp2_with fail
      refine (CI.out _).mono ?_
      rintro e w1 ⟨rfl, b1⟩
      go_wp2_with fail
      refine (CF.out _).mono ?_
      rintro e w2 ⟨rfl, rfl⟩
      go_wp2_with fail
      go_ret
      exact ⟨rfl, b1⟩
    · have cf := fun W => l06Few_no x 2 W h hf (by omega)
      rw [two_lit] at cf
      have CF := Lib.hid cf
      rw [decide_eq_false (show ¬ Two x from fun h2 => hf h2.2)]
      clear cf h hf
      go_enter Try.func44, Try.ntmps44
      go_wp2_with fail
      refine (CI.out _).mono ?_
      rintro e w1 ⟨rfl, b1⟩
      go_wp2_with fail
      refine (CF.out _).mono ?_
      rintro e w2 ⟨rfl, rfl⟩
      go_wp2_with fail
      go_ret
      exact ⟨rfl, b1⟩
  · have CI := Lib.hid fun W => l01Is_no x W sx h
    rw [decide_eq_false (show ¬ Two x from fun h2 => h h2.1)]
    clear h
    go_enter Try.func44, Try.ntmps44
    go_wp2_with fail
    refine (CI.out _).mono ?_
    rintro e w1 ⟨rfl, b1⟩
    go_wp2_with fail
    go_ret
    exact ⟨rfl, b1⟩

theorem slW_gcd {x : ByteArray} (h : Nat.gcd (cA (bl x)) (cB (bl x)) = 1) : slW (bl x) ↔ x = bt (sloW (cA (bl x)) (cB (bl x))) := by
  unfold slW
  constructor
  · rintro ⟨_, e⟩
    exact bl_inj e
  · intro e
    refine ⟨h, ?_⟩
    conv => lhs; rw [e]
    rfl
theorem gcd_pos2 {a b : Nat} (h : Nat.gcd a b = 1) : 0 < a + b := by
  rcases Nat.eq_zero_or_pos (a + b) with e | e
  · obtain rfl : a = 0 := by omega
    obtain rfl : b = 0 := by omega
    simp at h
  · exact e
theorem wf_nat {n : Nat} (h : n ≤ 60) : (Lit.int .i64 (n : Int)).wf = true := by
  simp [Lit.wf, IntKind.min, IntKind.max, IntKind.bits, IntKind.signed]
  omega

set_option maxRecDepth 100000 in
set_option maxHeartbeats 1000000 in
theorem slopeOf_any (x : ByteArray) (w : World) (h : ab (bl x)) (h60 : x.size ≤ 60) :
    Calls Try.prog 47 #[.string x] w fun e w' => e = .returned (.tuple #[.int .i64 (cA (bl x) : Int), .int .i64 (cB (bl x) : Int), .bool (decide (slW (bl x)))]) ∧ Below w.heap.size w w' := by
  have hs := cAB h
  rw [bl_len] at hs
  have CA : Hid (∀ W, Calls Try.prog 76 #[.string x, .string ⟨#[97]⟩] W fun e w' => e = .returned (.int .i64 (cA (bl x) : Int)) ∧ w' = W) := Lib.hid fun W => Try.strings_Count_one x 97 W
  have CB : Hid (∀ W, Calls Try.prog 76 #[.string x, .string ⟨#[98]⟩] W fun e w' => e = .returned (.int .i64 (cB (bl x) : Int)) ∧ w' = W) := Lib.hid fun W => Try.strings_Count_one x 98 W
  have cS := fun W => isSlope_any (cA (bl x) : Int) (cB (bl x) : Int) 0 W (by omega) (wf_nat (by omega)) (wf_nat (by omega)) (by decide)
  rw [slo_gcd (by omega) (by omega) (by omega) (by omega)] at cS
  have hgd := slW_gcd (x := x)
  have hcw := fun hp W => slopeWord_any (cA (bl x)) (cB (bl x)) W hp (by omega)
  have hng : ¬ Nat.gcd (cA (bl x)) (cB (bl x)) = 1 → ¬ slW (bl x) := fun e k => e k.1
  have hgp := fun h => gcd_pos2 (a := cA (bl x)) (b := cB (bl x)) h
  obtain ⟨D, hD⟩ : ∃ D, decide (slW (bl x)) = D := ⟨_, rfl⟩
  have hDy : slW (bl x) → D = true := fun e => by rw [← hD]; exact decide_eq_true e
  have hDn : ¬ slW (bl x) → D = false := fun e => by rw [← hD]; exact decide_eq_false e
  rw [hD]
  clear hD h
  generalize cA (bl x) = a at *
  generalize cB (bl x) = b at *
  by_cases hg : Nat.gcd a b = 1
  · rw [decide_eq_true (show ((Nat.gcd a b : Nat) : Int) = 1 by omega)] at cS
    have CS := Lib.hid cS
    have CW := Lib.hid (hcw (hgp hg))
    by_cases he : x = bt (sloW a b)
    · have ht := teq_yes he
      have HD := Lib.hid (hDy ((hgd hg).2 he))
      clear he hgd hcw hng hgp cS hg hDy hDn
      generalize bt (sloW a b) = y at *
      go_enter Try.func47, Try.ntmps47
      go_wp2_with fail
      refine (CA.out _).mono ?_
      rintro e w1 ⟨rfl, rfl⟩
      go_wp2_with fail
      refine (CB.out _).mono ?_
      rintro e w2 ⟨rfl, rfl⟩
      go_wp2_with fail
      refine (CS.out _).mono ?_
      rintro e w3 ⟨rfl, b3⟩
      go_wp2_with fail
      refine (CW.out _).mono ?_
      rintro e w4 ⟨rfl, b4⟩
      go_wp2_with fail
      go_ret3
      exact ⟨by rw [HD.out]; first | rfl | (rw [ht]; rfl), b3.then b4⟩
    · have ht := teq_no he
      have HD := Lib.hid (hDn (fun k => he ((hgd hg).1 k)))
      clear he hgd hcw hng hgp cS hg hDy hDn
      generalize bt (sloW a b) = y at *
      go_enter Try.func47, Try.ntmps47
      go_wp2_with fail
      refine (CA.out _).mono ?_
      rintro e w1 ⟨rfl, rfl⟩
      go_wp2_with fail
      refine (CB.out _).mono ?_
      rintro e w2 ⟨rfl, rfl⟩
      go_wp2_with fail
      refine (CS.out _).mono ?_
      rintro e w3 ⟨rfl, b3⟩
      go_wp2_with fail
      refine (CW.out _).mono ?_
      rintro e w4 ⟨rfl, b4⟩
      go_wp2_with fail
      go_ret3
      exact ⟨by rw [HD.out]; first | rfl | (rw [ht]; rfl), b3.then b4⟩
  · rw [decide_eq_false (show ¬ ((Nat.gcd a b : Nat) : Int) = 1 by omega)] at cS
    have CS := Lib.hid cS
    have HD := Lib.hid (hDn (hng hg))
    clear hgd hcw hng hgp cS hg hDy hDn
    go_enter Try.func47, Try.ntmps47
    go_wp2_with fail
    refine (CA.out _).mono ?_
    rintro e w1 ⟨rfl, rfl⟩
    go_wp2_with fail
    refine (CB.out _).mono ?_
    rintro e w2 ⟨rfl, rfl⟩
    go_wp2_with fail
    refine (CS.out _).mono ?_
    rintro e w3 ⟨rfl, b3⟩
    go_wp2_with fail
    go_ret3
    exact ⟨by rw [HD.out]; rfl, b3⟩

set_option maxRecDepth 100000 in
set_option maxHeartbeats 1000000 in
theorem l08Slope_any (x : ByteArray) (w : World) (h : ab (bl x)) (h60 : x.size ≤ 60) :
    Calls Try.prog 45 #[.string x] w fun e w' => e = .returned (.tuple #[.int .i64 (cA (bl x) : Int), .int .i64 (cB (bl x) : Int), .bool (decide (slW (bl x)))]) ∧ Below w.heap.size w w' := by
  have hs := cAB h
  rw [bl_len] at hs
  have hgd := slW_gcd (x := x)
  have CW := Lib.hid fun (hp : 0 < cA (bl x) + cB (bl x)) W => l08Word_any (cA (bl x)) (cB (bl x)) W hp (by omega)
  have CG := Lib.hid fun W => l02Gcd_any (cA (bl x)) (cB (bl x)) W (by omega) (by omega)
  have hng : ¬ Nat.gcd (cA (bl x)) (cB (bl x)) = 1 → ¬ slW (bl x) := fun e k => e k.1
  have hgp := fun h => gcd_pos2 (a := cA (bl x)) (b := cB (bl x)) h
  obtain ⟨D, hD⟩ : ∃ D, decide (slW (bl x)) = D := ⟨_, rfl⟩
  have HDy : Hid (slW (bl x) → D = true) := Lib.hid fun e => by rw [← hD]; exact decide_eq_true e
  have HDn : Hid (¬ slW (bl x) → D = false) := Lib.hid fun e => by rw [← hD]; exact decide_eq_false e
  have HGD := Lib.hid hgd
  have HNG := Lib.hid hng
  have HGP := Lib.hid hgp
  have HSN : Hid (∀ k (hk : k < x.size), cA ((bl x).take (k + 1)) = cA ((bl x).take k) + (if x[k]'hk = 97 then 1 else 0) ∧ cB ((bl x).take (k + 1)) = cB ((bl x).take k) + (if x[k]'hk = 97 then 0 else 1)) := Lib.hid fun k hk => by
    have hk' : k < (bl x).length := hk
    have e : (bl x)[k]'hk' = x[k]'hk := rfl
    rw [List.take_succ_eq_append_getElem hk', cA_snoc, cB_snoc, e]
    refine ⟨rfl, ?_⟩
    rcases h (x[k]'hk) (by rw [← e]; exact List.getElem_mem _) with q | q
    · rw [q]; rfl
    · rw [q]; rfl
  rw [hD]
  clear hD h hgd hng hgp
  obtain ⟨A, hA⟩ : ∃ A, cA (bl x) = A := ⟨_, rfl⟩
  obtain ⟨B, hB⟩ : ∃ B, cB (bl x) = B := ⟨_, rfl⟩
  rw [hA, hB] at hs CW CG HGD HNG HGP
  rw [hA, hB]
  have HAE := Lib.hid hA
  have HBE := Lib.hid hB
  clear hA hB
  go_enter Try.func45, Try.ntmps45
  go_wp2
  go_loopg [5, 6, 7] x.size (fun gk s5 s6 s7 wr => ∃ (k a b : Nat), k + gk = x.size ∧ s7 = .int .i64 (k : Int) ∧ s5 = .int .i64 (a : Int) ∧ s6 = .int .i64 (b : Int) ∧ a ≤ k ∧ b ≤ k ∧ Hid (a = cA ((bl x).take k)) ∧ Hid (b = cB ((bl x).take k)) ∧ w = wr)
  case atStart => exact ⟨0, 0, 0, by omega, rfl, rfl, rfl, Nat.le_refl _, Nat.le_refl _, Lib.hid rfl, Lib.hid rfl, rfl⟩
  case round =>
    obtain ⟨k, a, b, hk, rfl, rfl, rfl, ha, hb, HA, HB, hwr⟩ := hrel
    subst hwr
    by_cases hp : k < x.size
    · obtain ⟨g1, rfl⟩ : ∃ j, gk = j + 1 := ⟨gk - 1, by omega⟩
      have hpi : (k : Int) < (x.size : Int) := by omega
      obtain ⟨n1, n2⟩ := HSN.out k hp
      by_cases hc : x[k]'hp = 97
      · rw [if_pos hc, ← HA.out] at n1
        rw [if_pos hc, ← HB.out] at n2
        have hci : ((x[k]'hp).toNat : Int) = 97 := by rw [hc]; rfl
        have N1 := Lib.hid n1
        have N2 := Lib.hid n2
        have hcb : (((x[k]'hp).toNat : Int) == 97) = true := by simp [hci]
        clear n1 n2 hc
        go_wp2
        go_roundg g1
        case measure => omega
        case rel => exact ⟨k + 1, a + 1, b, by omega, by go_num, by go_num, rfl, by omega, by omega, Lib.hid N1.out.symm, Lib.hid (by rw [N2.out]; rfl), rfl⟩
      · rw [if_neg hc, ← HA.out] at n1
        rw [if_neg hc, ← HB.out] at n2
        have hci : ¬ ((x[k]'hp).toNat : Int) = 97 := fun e => hc (UInt8.toNat_inj.1 (by show _ = 97; omega))
        have N1 := Lib.hid n1
        have N2 := Lib.hid n2
        have hcb : (((x[k]'hp).toNat : Int) == 97) = false := by simp [hci]
        clear n1 n2 hc
        go_wp2
        go_roundg g1
        case measure => omega
        case rel => exact ⟨k + 1, a, b + 1, by omega, by go_num, rfl, by go_num, by omega, by omega, Lib.hid (by rw [N1.out]; rfl), Lib.hid N2.out.symm, rfl⟩
    · obtain rfl : gk = 0 := by omega
      obtain rfl : k = x.size := by omega
      have hpi : ¬ (x.size : Int) < (x.size : Int) := by omega
      have ha2 := HA.out
      have hb2 := HB.out
      rw [List.take_of_length_le (Nat.le_of_eq (bl_len x))] at ha2 hb2
      rw [HAE.out] at ha2
      rw [HBE.out] at hb2
      clear HAE HBE HA HB hs
      subst ha2 hb2
      by_cases hg : Nat.gcd a b = 1
      · have cg := CG.out
        rw [hg] at cg
        have CG2 := Lib.hid cg
        have CW2 := Lib.hid (CW.out (HGP.out hg))
        have HGD2 := Lib.hid (HGD.out hg)
        clear cg hg CG CW HGD HNG HGP
        by_cases he : x = bt (sloW a b)
        · have ht := teq_yes he.symm
          have HD := Lib.hid (HDy.out (HGD2.out.2 he))
          clear he HGD2
          generalize bt (sloW a b) = y at *
          go_wp2_with fail
          refine (CG2.out _).mono ?_
          rintro e w1 ⟨rfl, b1⟩
          go_wp2_with fail
          refine (CW2.out _).mono ?_
          rintro e w2 ⟨rfl, b2⟩
          go_wp2_with fail
          go_ret3
          exact ⟨by rw [HD.out]; first | rfl | (rw [ht]; rfl), b1.then b2⟩
        · have ht := teq_no (fun e => he e.symm)
          have HD := Lib.hid (HDn.out (fun q => he (HGD2.out.1 q)))
          clear he HGD2
          generalize bt (sloW a b) = y at *
          go_wp2_with fail
          refine (CG2.out _).mono ?_
          rintro e w1 ⟨rfl, b1⟩
          go_wp2_with fail
          refine (CW2.out _).mono ?_
          rintro e w2 ⟨rfl, b2⟩
          go_wp2_with fail
          go_ret3
          exact ⟨by rw [HD.out]; first | rfl | (rw [ht]; rfl), b1.then b2⟩
      · have HD := Lib.hid (HDn.out (HNG.out hg))
        have cg := CG.out
        have hgi : ¬ ((Nat.gcd a b : Nat) : Int) = 1 := by omega
        have CG2 := Lib.hid cg
        clear cg hg CG CW HGD HNG HGP
        generalize Nat.gcd a b = d at *
        go_wp2_with fail
        refine (CG2.out _).mono ?_
        rintro e w1 ⟨rfl, b1⟩
        go_wp2_with fail
        go_ret3
        exact ⟨by rw [HD.out]; rfl, b1⟩

end Go.Proofs.Ytddfdciohnabbaa
