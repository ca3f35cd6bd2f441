/- How many words have a vector: the program and the model. -/
import Derived.Test.YtolboinemechpaaNwPlain
import Derived.Test.YtolboinemechpaaAb
import Derived.Deep.LoopGhost
namespace Go.Proofs.Ytolboinemechpaa
set_option linter.unusedVariables false
set_option linter.unusedSimpArgs false
open Go.RowKit

set_option maxRecDepth 100000 in
set_option maxHeartbeats 1000000 in
theorem countWith_any (f : Nat → Nat) (w : World) (hs : sm f 5 ≤ 12) :
    Calls Try.prog 60 #[vecV f] w fun e w' => e = .returned (.int .i64 (nw f : Int)) ∧ Below w.heap.size w w' := by
  have HS := Lib.hid hs
  have IX := Lib.hid fun j hj W => idx5 f j hj W
  obtain ⟨R, hR⟩ : ∃ R, nw f = R := ⟨_, rfl⟩
  have hR' : (nwK f 5).1 = R := hR
  rw [hR]
  have HR := Lib.hid hR'
  have HV : Hid (vecV f = vecV f) := Lib.hid rfl
  clear hR hR' hs
  go_enter Try.func60, Try.ntmps60
  go_wp2
  go_loopg [3, 4, 9] 5 (fun gk s3 s4 s9 wr => ∃ j p l : Nat, j + gk = 5 ∧ s3 = .int .i64 (p : Int) ∧ s4 = .int .i64 (l : Int) ∧ s9 = .int .i64 (j : Int) ∧ Hid ((nwK f j).1 = p ∧ sm f j = l) ∧ Below w.heap.size w wr)
  case atStart => exact ⟨0, 1, 0, rfl, rfl, rfl, rfl, Lib.hid ⟨rfl, rfl⟩, Below.new _ _⟩
  case round =>
    obtain ⟨j, p, l, hg, rfl, rfl, rfl, HI, hB⟩ := hrel
    by_cases hj : j < 5
    · obtain ⟨g, rfl⟩ : ∃ g, gk = g + 1 := ⟨gk - 1, by omega⟩
      have hix := fun W => IX.out j hj W
      have HF : Hid (f j = f j) := Lib.hid rfl
      obtain ⟨q, hq⟩ : ∃ q, f j = q := ⟨_, rfl⟩
      rw [hq] at hix
      have HQ := Lib.hid hq
      have hq12 : q ≤ 12 := by
        have h1 := sm_mono f (show j + 1 ≤ 5 by omega)
        rw [sm_succ] at h1
        have := HS.out
        omega
      have HI0 : Hid ((ncol (nwK f j) 0).1 = p ∧ sm f j + 0 = l) := HI
      clear hq HI
      go_wp2
      go_loopg [3, 4, 13] q (fun gk s3 s4 s13 wr => ∃ c p l : Nat, c + gk = q ∧ s3 = .int .i64 (p : Int) ∧ s4 = .int .i64 (l : Int) ∧ s13 = .int .i64 (c : Int) ∧ Hid ((ncol (nwK f j) c).1 = p ∧ sm f j + c = l) ∧ Below w.heap.size w wr)
      case atStart => exact ⟨0, p, l, by omega, rfl, rfl, rfl, HI0, hB⟩
      case round =>
        clear HI0 hB
        obtain ⟨c, p, l, hg2, rfl, rfl, rfl, HI, hB⟩ := hrel
        by_cases hc : c < q
        · obtain ⟨g2, rfl⟩ : ∃ g2, gk = g2 + 1 := ⟨gk - 1, by omega⟩
          obtain ⟨h1, h2, h3, h4⟩ := ncol_walk f j c hj (by rw [HQ.out]; exact hc) HS.out
          have hn := ncol_succ (nwK f j) c
          rw [h1, HI.out.1, HI.out.2] at hn
          rw [HI.out.1] at h3
          rw [HI.out.1, HI.out.2] at h4
          rw [HI.out.2] at h2
          obtain ⟨P, hP⟩ : ∃ P, p * (l + 1) = P := ⟨_, rfl⟩
          rw [hP] at h4 hn
          have hPi : (p : Int) * ((l : Int) + 1) = (P : Int) := by rw [← hP, Int.natCast_mul]; rfl
          obtain ⟨Q, hQ⟩ : ∃ Q, P / (c + 1) = Q := ⟨_, rfl⟩
          rw [hQ] at hn
          have hQi : (P : Int) / ((c : Int) + 1) = (Q : Int) := by rw [← hQ, Int.natCast_ediv]; rfl
          have hQl : Q ≤ P := by rw [← hQ]; exact Nat.div_le_self _ _
          have HN : Hid ((ncol (nwK f j) (c + 1)).1 = Q ∧ sm f j + (c + 1) = l + 1) := Lib.hid ⟨by rw [hn], by have := HI.out.2; omega⟩
          have hcq : (c : Int) < (q : Int) := by omega
          clear h1 hP hQ hn HI
          go_wp2
          go_roundg g2
          case measure => omega
          case rel => exact ⟨c + 1, Q, l + 1, by omega, rfl, by go_num, by go_num, HN, hB⟩
        · obtain rfl : gk = 0 := by omega
          obtain rfl : c = q := by omega
          have HN : Hid ((nwK f (j + 1)).1 = p ∧ sm f (j + 1) = l) := Lib.hid ⟨by rw [nwK_succ, HQ.out]; exact HI.out.1, by rw [sm_succ, HQ.out]; exact HI.out.2⟩
          have hcq : ¬ (c : Int) < (c : Int) := by omega
          go_wp2
          go_roundg g
          case measure => omega
          case rel => exact ⟨j + 1, p, l, by omega, rfl, rfl, by go_num, HN, hB⟩
    · obtain rfl : gk = 0 := by omega
      obtain rfl : j = 5 := by omega
      have HN : Hid (p = R) := Lib.hid (HI.out.1.symm.trans HR.out)
      go_wp2
      go_ret
      exact ⟨by rw [← HN.out]; rfl, hB⟩

/-- What a slice of five numbers of at least 0 is for a loop over it. -/
theorem own_five {w : World} {B : Nat} {v : Value} {L : List Int} {f : Nat → Nat} (h : OwnI w B v L) (hl : L.length = 5) (hf : ∀ j, j < 5 → L[j]? = some (f j : Int)) :
    ∃ g cap, v = .slice (some ⟨g, 0, none⟩) 5 cap ∧ g < w.heap.size ∧ 5 ≤ cap ∧ Hid (∀ j, j < 5 → w.cell? ⟨g, j, none⟩ = some (.int .i64 (f j : Int))) := by
  obtain ⟨g, cap, rfl, _, hg, hc, _, cell, _⟩ := h.row (by omega)
  rw [hl] at hc ⊢
  refine ⟨g, cap, rfl, hg, hc, Lib.hid fun j hj => ?_⟩
  have h1 := cell j (by omega)
  have h2 := hf j hj
  rw [List.getElem?_eq_getElem (by omega)] at h2
  rw [h1, Option.some.inj h2]

set_option maxRecDepth 100000 in
set_option maxHeartbeats 1000000 in
theorem l07Number_any (B : Nat) (v : Value) (L : List Int) (f : Nat → Nat) (w : World) (h : OwnI w B v L) (hl : L.length = 5) (hf : ∀ j, j < 5 → L[j]? = some (f j : Int)) (hs : sm f 5 ≤ 12) :
    Calls Try.prog 59 #[v] w fun e w' => e = .returned (.int .i64 (nw f : Int)) ∧ Below w.heap.size w w' := by
  obtain ⟨g0, cap, rfl, hg0, hcap, CL⟩ := own_five h hl hf
  have HS := Lib.hid hs
  obtain ⟨R, hR⟩ : ∃ R, nw f = R := ⟨_, rfl⟩
  have hR' : (nwK f 5).1 = R := hR
  rw [hR]
  have HR := Lib.hid hR'
  clear hR hR' hs h hf hl
  go_enter Try.func59, Try.ntmps59
  go_wp2
  go_loopg [3, 4, 5] 5 (fun gk s3 s4 s5 wr => ∃ j p l : Nat, j + gk = 5 ∧ s3 = .int .i64 (p : Int) ∧ s4 = .int .i64 (l : Int) ∧ s5 = .int .i64 (j : Int) ∧ Hid ((nwK f j).1 = p ∧ sm f j = l) ∧ Below w.heap.size w wr)
  case atStart => exact ⟨0, 1, 0, rfl, rfl, rfl, rfl, Lib.hid ⟨rfl, rfl⟩, Below.refl _ _⟩
  case round =>
    obtain ⟨j, p, l, hg, rfl, rfl, rfl, HI, hB⟩ := hrel
    by_cases hj : j < 5
    · obtain ⟨g, rfl⟩ : ∃ g, gk = g + 1 := ⟨gk - 1, by omega⟩
      obtain ⟨q, hq⟩ : ∃ q, f j = q := ⟨_, rfl⟩
      have HQ := Lib.hid hq
      have hq12 : q ≤ 12 := by
        have h1 := sm_mono f (show j + 1 ≤ 5 by omega)
        rw [sm_succ] at h1
        have := HS.out
        omega
      have HI0 : Hid ((ncol (nwK f j) 0).1 = p ∧ sm f j + 0 = l) := HI
      have hjc : j < cap := by omega
      clear hq HI
      go_wp2
      go_loopg [3, 4, 6] q (fun gk s3 s4 s6 wr => ∃ c p l : Nat, c + gk = q ∧ s3 = .int .i64 (p : Int) ∧ s4 = .int .i64 (l : Int) ∧ s6 = .int .i64 ((c : Int) + 1) ∧ Hid ((ncol (nwK f j) c).1 = p ∧ sm f j + c = l) ∧ Below w.heap.size w wr)
      case atStart => exact ⟨0, p, l, by omega, rfl, rfl, rfl, HI0, hB⟩
      case round =>
        clear HI0 hB
        obtain ⟨c, p, l, hg2, rfl, rfl, rfl, HI, hB⟩ := hrel
        have kc : wr.cell? ⟨g0, j, none⟩ = some (.int .i64 (q : Int)) := by rw [(bcell hB).1 g0 j hg0, CL.out j hj, HQ.out]
        by_cases hc : c < q
        · obtain ⟨g2, rfl⟩ : ∃ g2, gk = g2 + 1 := ⟨gk - 1, by omega⟩
          obtain ⟨h1, h2, h3, h4⟩ := ncol_walk f j c hj (by rw [HQ.out]; exact hc) HS.out
          have hn := ncol_succ (nwK f j) c
          rw [h1, HI.out.1, HI.out.2] at hn
          rw [HI.out.1] at h3
          rw [HI.out.1, HI.out.2] at h4
          rw [HI.out.2] at h2
          obtain ⟨P, hP⟩ : ∃ P, p * (l + 1) = P := ⟨_, rfl⟩
          rw [hP] at h4 hn
          have hPi : (p : Int) * ((l : Int) + 1) = (P : Int) := by rw [← hP, Int.natCast_mul]; rfl
          obtain ⟨Q, hQ⟩ : ∃ Q, P / (c + 1) = Q := ⟨_, rfl⟩
          rw [hQ] at hn
          have hQi : (P : Int) / ((c : Int) + 1) = (Q : Int) := by rw [← hQ, Int.natCast_ediv]; rfl
          have hQl : Q ≤ P := by rw [← hQ]; exact Nat.div_le_self _ _
          have HN : Hid ((ncol (nwK f j) (c + 1)).1 = Q ∧ sm f j + (c + 1) = l + 1) := Lib.hid ⟨by rw [hn], by have := HI.out.2; omega⟩
          have hcq : (c : Int) + 1 ≤ (q : Int) := by omega
          clear h1 hP hQ hn HI
          go_wp2
          go_roundg g2
          case measure => omega
          case rel => exact ⟨c + 1, Q, l + 1, by omega, rfl, by go_num, by go_num, HN, hB⟩
        · obtain rfl : gk = 0 := by omega
          obtain rfl : c = q := by omega
          have HN : Hid ((nwK f (j + 1)).1 = p ∧ sm f (j + 1) = l) := Lib.hid ⟨by rw [nwK_succ, HQ.out]; exact HI.out.1, by rw [sm_succ, HQ.out]; exact HI.out.2⟩
          have hcq : ¬ (c : Int) + 1 ≤ (c : Int) := by omega
          go_wp2
          go_roundg g
          case measure => omega
          case rel => exact ⟨j + 1, p, l, by omega, rfl, rfl, by go_num, HN, hB⟩
    · obtain rfl : gk = 0 := by omega
      obtain rfl : j = 5 := by omega
      have HN : Hid (p = R) := Lib.hid (HI.out.1.symm.trans HR.out)
      go_wp2
      go_ret
      exact ⟨by rw [← HN.out]; rfl, hB⟩

set_option maxRecDepth 100000 in
theorem impl_CountAlike (x : ByteArray) (w : World) (sx : x.size ≤ maxLen) :
    Calls Try.prog 20 #[.string x] w fun e w' => e = .returned (.tuple #[.int .i64 (countAR x).1, .int .i64 (countAR x).2]) ∧ Below w.heap.size w w' := by
  have hm := sx
  unfold maxLen at hm
  by_cases h : IsW x
  · have hx := h.size
    by_cases hl : 12 < x.size
    · rw [countAR_long h hl]
      have H := Lib.hid h
      clear h
      go_enter Try.func20, Try.ntmps20
      go_wp2_with fail
      refine (isWord_yes x _ H.out).mono ?_
      rintro e w1 ⟨rfl, b1⟩
      go_wp2_with fail
      go_ret2
      exact ⟨rfl, b1⟩
    · rw [countAR_ok h hl]
      have H := Lib.hid h
      have hs : sm (ct (bl x)) 5 ≤ 12 := by rw [sm_word h]; omega
      have CW := Lib.hid fun W => countWith_any (ct (bl x)) W hs
      have VX := Lib.hid fun W => vectorOf_any x W h
      generalize ct (bl x) = f at *
      clear h hs
      go_enter Try.func20, Try.ntmps20
      go_wp2_with fail
      refine (isWord_yes x _ H.out).mono ?_
      rintro e w1 ⟨rfl, b1⟩
      go_wp2_with fail
      refine (VX.out _).mono ?_
      rintro e w2 ⟨rfl, b2⟩
      go_wp2_with fail
      refine (CW.out _).mono ?_
      rintro e w3 ⟨rfl, b3⟩
      go_wp2_with fail
      go_ret2
      exact ⟨rfl, (b1.then b2).then b3⟩
  · rw [countAR_bad h]
    have H := Lib.hid h
    clear h
    go_enter Try.func20, Try.ntmps20
    go_wp2_with fail
    refine (isWord_not x _ sx H.out).mono ?_
    rintro e w1 ⟨rfl, b1⟩
    go_wp2_with fail
    go_ret2
    exact ⟨rfl, b1⟩

set_option maxRecDepth 100000 in
theorem spec_CountAlike (x : ByteArray) (w : World) (sx : x.size ≤ maxLen) :
    Calls Try.prog 19 #[.string x] w fun e w' => e = .returned (.tuple #[.int .i64 (countAR x).1, .int .i64 (countAR x).2]) ∧ Below w.heap.size w w' := by
  have hm := sx
  unfold maxLen at hm
  by_cases h : IsW x
  · have hx := h.size
    by_cases hl : 12 < x.size
    · rw [countAR_long h hl]
      have H := Lib.hid h
      clear h
      go_enter Try.func19, Try.ntmps19
      go_wp2_with fail
      refine (l01Is_yes x _ H.out).mono ?_
      rintro e w1 ⟨rfl, b1⟩
      go_wp2_with fail
      go_ret2
      exact ⟨rfl, b1⟩
    · rw [countAR_ok h hl]
      have H := Lib.hid h
      have hs : sm (ct (bl x)) 5 ≤ 12 := by rw [sm_word h]; omega
      have CN := Lib.hid fun B v W (o : OwnI W B v (clv (bl x))) => l07Number_any B v (clv (bl x)) (ct (bl x)) W o rfl (clv_get _) hs
      clear h hs
      go_enter Try.func19, Try.ntmps19
      go_wp2_with fail
      refine (l01Is_yes x _ H.out).mono ?_
      rintro e w1 ⟨rfl, b1⟩
      go_wp2_with fail
      refine (l01Count_ct x _ H.out).mono ?_
      rintro e w2 ⟨v, rfl, o2, b2⟩
      go_wp2_with fail
      refine (CN.out _ _ _ o2).mono ?_
      rintro e w3 ⟨rfl, b3⟩
      go_wp2_with fail
      go_ret2
      exact ⟨rfl, (b1.then b2).then b3⟩
  · rw [countAR_bad h]
    have H := Lib.hid h
    clear h
    go_enter Try.func19, Try.ntmps19
    go_wp2_with fail
    refine (l01Is_no x _ sx H.out).mono ?_
    rintro e w1 ⟨rfl, b1⟩
    go_wp2_with fail
    go_ret2
    exact ⟨rfl, b1⟩

end Go.Proofs.Ytolboinemechpaa
