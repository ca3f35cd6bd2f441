/- Standard words: both sides. -/
import Derived.Test.YtddfdciohnabbaaAfter
import Derived.Test.YtddfdciohnabbaaToI
import Derived.Deep.LoopGhost
namespace Go.Proofs.Ytddfdciohnabbaa
set_option linter.unusedVariables false
set_option linter.unusedSimpArgs false
open Go.RowKit

theorem OwnI.lk {w : World} {B : Nat} {v : Value} {L : List Int} (h : OwnI w B v L) : ∃ a c, v = .slice a L.length c ∧ ∀ k (hk : k < L.length), ∃ g, a = some ⟨g, 0, none⟩ ∧ k < c ∧ g < w.heap.size ∧ w.cell? ⟨g, k, none⟩ = some (.int .i64 (L[k]'hk)) := by
  by_cases h0 : L = []
  · subst h0
    obtain ⟨a, c, rfl⟩ := h.empty
    exact ⟨a, c, rfl, fun k hk => by simp at hk⟩
  · obtain ⟨g, c, rfl, _, hg, hc, _, cell, _⟩ := h.row (List.length_pos_iff.2 h0)
    exact ⟨_, c, rfl, fun k hk => ⟨g, rfl, by omega, hg, cell k hk⟩⟩

set_option maxRecDepth 100000 in
theorem leastNumber_any (k : Nat) (w : World) (h : k ≤ 1048576) :
    Calls Try.prog 77 #[.int .i64 (k : Int)] w fun e w' => e = .returned (.int .i64 ((min k 1 : Nat) : Int)) ∧ w = w' := by
  have hm : min (k : Int) 1 = ((min k 1 : Nat) : Int) := by omega
  go_enter Try.func77, Try.ntmps77
  go_wp2
  go_ret
  exact ⟨by first | rfl | (rw [hm]; rfl), rfl⟩

set_option maxRecDepth 100000 in
set_option maxHeartbeats 1000000 in
theorem isStandardList_any (B : Nat) (v : Value) (L : List Int) (w : World) (h : OwnI w B v L) (hl : L.length ≤ 1048576) :
    Calls Try.prog 50 #[v] w fun e w' => e = .returned (.bool (decide (okSt L))) ∧ Below w.heap.size w w' := by
  obtain ⟨a, c, rfl, hk⟩ := h.lk
  have HK := Lib.hid hk
  obtain ⟨D, hD⟩ : ∃ D, decide (okSt L) = D := ⟨_, rfl⟩
  have HDY : Hid (okSt L → D = true) := Lib.hid fun e => by rw [← hD]; exact decide_eq_true e
  have HDN : Hid (¬ okSt L → D = false) := Lib.hid fun e => by rw [← hD]; exact decide_eq_false e
  rw [hD]
  clear hD h hk
  go_enter Try.func50, Try.ntmps50
  go_wp2
  go_loopg [7] L.length (fun gk i wr => ∃ k : Nat, k + gk = L.length ∧ i = .int .i64 k ∧ Hid (okStTo L k) ∧ w = wr)
  case atStart => exact ⟨0, by omega, rfl, Lib.hid (okStTo.zero L), rfl⟩
  case round =>
    obtain ⟨k, hk, rfl, HO, hwr⟩ := hrel
    subst hwr
    by_cases hp : k < L.length
    · obtain ⟨g1, rfl⟩ : ∃ j, gk = j + 1 := ⟨gk - 1, by omega⟩
      have hpi : (k : Int) < (L.length : Int) := by omega
      obtain ⟨g, rfl, hkc, hg, kc⟩ := HK.out k hp
      have CL := Lib.hid fun W => leastNumber_any k W (by omega)
      have HS : Hid (((min k 1 : Nat) : Int) ≤ L[k]'hp → L[k]'hp ≤ 60 → okStTo L (k + 1)) := Lib.hid fun a b => HO.out.succ hp a b
      have HN : Hid (¬ (((min k 1 : Nat) : Int) ≤ L[k]'hp ∧ L[k]'hp ≤ 60) → D = false) := Lib.hid fun a => HDN.out fun q => a (q.2 k hp)
      generalize min k 1 = mm at *
      generalize L[k]'hp = z at *
      by_cases h1 : z < (mm : Int)
      · have HF := Lib.hid (HN.out (by omega))
        go_wp2_with fail
        refine (CL.out _).mono ?_
        rintro e w2 ⟨rfl, rfl⟩
        go_wp2_with fail
        go_ret
        exact ⟨by rw [HF.out]; rfl, Below.refl _ _⟩
      · by_cases h2 : 60 < z
        · have HF := Lib.hid (HN.out (by omega))
          go_wp2_with fail
          refine (CL.out _).mono ?_
          rintro e w2 ⟨rfl, rfl⟩
          go_wp2_with fail
          go_ret
          exact ⟨by rw [HF.out]; rfl, Below.refl _ _⟩
        · have HF := Lib.hid (HS.out (by omega) (by omega))
          go_wp2_with fail
          refine (CL.out _).mono ?_
          rintro e w2 ⟨rfl, rfl⟩
          go_wp2_with fail
          go_roundg g1
          case measure => omega
          case rel => exact ⟨k + 1, by omega, by go_num, HF, rfl⟩
    · obtain rfl : gk = 0 := by omega
      obtain rfl : k = L.length := by omega
      have hpi : ¬ (L.length : Int) < (L.length : Int) := by omega
      have HE : Hid (decide ((L.length : Int) ≤ 20) = D) := Lib.hid (by
        by_cases h20 : L.length ≤ 20
        · rw [HDY.out (HO.out.whole (Nat.le_refl _) h20)]; simp; omega
        · rw [HDN.out (fun q => h20 q.1)]; simp; omega)
      go_wp2
      go_ret
      exact ⟨by rw [← HE.out]; first | rfl | simp, Below.refl _ _⟩

set_option maxRecDepth 100000 in
theorem firstStandard_any (w : World) :
    Calls Try.prog 51 #[] w fun e w' => e = .returned (.agg #[.string letA, .string letC, .slice none 0 0]) ∧ Below w.heap.size w w' := by
  go_enter Try.func51, Try.ntmps51
  go_wp2_with fail
  have st3 := Sw3.new w (.string ⟨#[97]⟩) (.string ⟨#[98]⟩) (.slice none 0 0)
  have bb := Below.new w (.cells #[.string ⟨#[97]⟩, .string ⟨#[98]⟩, .slice none 0 0] 56)
  exact bodyPost_ret (results_cell_row Try.results51 _ _ w.heap.size _ _ _ _ rfl st3 Try.underlying56 rfl (by kernel_rfl)) rfl ⟨rfl, bb⟩

set_option maxRecDepth 100000 in
set_option maxHeartbeats 4000000 in
theorem impl_StandardWord (B : Nat) (v : Value) (L : List Int) (w : World) (h : OwnI w B v L) (hl : L.length ≤ 1048576) :
    Calls Try.prog 19 #[v] w fun e w' => e = .returned (.tuple #[.string (stR L).1, .int .i64 (stR L).2]) ∧ Below w.heap.size w w' := by
  have ci := fun W h => isStandardList_any B v L W h hl
  have H := Lib.hid h
  obtain ⟨a, c, rfl, hk⟩ := h.lk
  by_cases k : okSt L
  · rw [decide_eq_true k] at ci
    have CI := Lib.hid (ci w h)
    obtain ⟨R, hR⟩ : ∃ R, stR L = R := ⟨_, rfl⟩
    have HN : Hid (stdF L letA letC = none → R = (tE, 3)) := Lib.hid fun e => by rw [← hR]; exact stR_none k e
    have HY : Hid (∀ x, stdF L letA letC = some x → R = (x, 0)) := Lib.hid fun x e => by rw [← hR]; exact stR_some k e
    have hl20 := k.1
    have OK := Lib.hid k.2
    have HK := Lib.hid hk
    have CF := Lib.hid fun W => firstStandard_any W
    rw [hR]
    clear ci h hk k hR
    go_enter Try.func19, Try.ntmps19
    go_wp2_with fail
    refine CI.out.mono ?_
    rintro e w1 ⟨rfl, b1⟩
    go_wp2_with fail
    refine (CF.out _).mono ?_
    rintro e w2 ⟨rfl, b2⟩
    have B2 := b1.then b2
    have st := Sw3.new w2 (.string letA) (.string letC) (.slice none 0 0)
    have ST := Lib.hid st
    have HB2 := Lib.hid B2
    clear st b1 b2 B2
    go_wp2_with fail
    go_loopg [13] L.length (fun gk s wr => ∃ (k : Nat) (x y : ByteArray) (u : Value), k + gk = L.length ∧ s = .int .i64 (k : Int) ∧ Sw3 wr w2.heap.size (.string x) (.string y) u ∧ OwnI wr (w2.heap.size + 1) u (L.take k) ∧ Hid (L.take k = [] → u = .slice none 0 0) ∧ x.size ≤ 60 ∧ y.size ≤ 60 ∧ Hid (stdF (L.drop k) x y = stdF L letA letC) ∧ Below w2.heap.size w2 wr)
    case atStart => exact ⟨0, letA, letC, _, by omega, rfl, ST.out, OwnI.nil _ _, Lib.hid fun _ => rfl, by decide, by decide, Lib.hid rfl, Below.new _ _⟩
    case round =>
      obtain ⟨k, x, y, u, hkg, rfl, st, own, HU, hx, hy, HS, hB⟩ := hrel
      have hz := hB.size
      have hlt := st.lt
      by_cases hp : k < L.length
      · obtain ⟨g1, rfl⟩ : ∃ j, gk = j + 1 := ⟨gk - 1, by omega⟩
        have hpi : (k : Int) < (L.length : Int) := by omega
        obtain ⟨g, rfl, hkc, hg, kc0⟩ := HK.out k hp
        have kc : wr.cell? ⟨g, k, none⟩ = some (.int .i64 (L[k]'hp)) := by rw [(bcell (HB2.out.then hB)).1 g k hg]; exact kc0
        obtain ⟨o1, o2⟩ := OK.out k hp
        have hdr := stdF_drop hp x y
        rw [HS.out] at hdr
        have htk : L.take (k + 1) = L.take k ++ [L[k]'hp] := List.take_succ_eq_append_getElem hp
        obtain ⟨d, hd⟩ := Int.eq_ofNat_of_zero_le (show 0 ≤ L[k]'hp by omega)
        rw [hd] at kc hdr htk
        have hd60 : d ≤ 60 := by omega
        rw [Int.toNat_natCast] at hdr
        have CA := Lib.hid (after_any x y d (w2.heap.size + 1) u (L.take k) wr own HU.out hx hy (by omega) (by rw [List.length_take]; omega))
        have c0 := st.c0
        have c1 := st.c1
        have c2 := st.c2
        have ST2 := Lib.hid st
        have HDR := Lib.hid hdr
        have HTK := Lib.hid htk
        clear kc0 hdr htk hd o1 o2 st own
        go_wp2_with fail
        refine CA.out.mono ?_
        rintro e w3 ⟨u2, rfl, o3, b3⟩
        obtain ⟨gu, cu, hu2, -⟩ := o3.row (by simp)
        rw [show (L.take k ++ [(d : Int)]).length = k + 1 by rw [List.length_append, List.length_take, List.length_singleton]; omega] at hu2
        subst hu2
        have st3 := ST2.out.later b3
        have B3 := hB.then b3
        have hz3 := b3.size
        have d0 := st3.c0
        have d1 := st3.c1
        have d2 := st3.c2
        have f0 := st3.fz 0
        have f1 := st3.fz 1
        have f2 := st3.fz 2
        have ST4 : Hid (Sw3 (((w3.setCell ⟨w2.heap.size, 0, none⟩ (.string (stdN x y d))).setCell ⟨w2.heap.size, 1, none⟩ (.string x)).setCell ⟨w2.heap.size, 2, none⟩ (.slice (some ⟨gu, 0, none⟩) (k + 1) cu)) w2.heap.size (.string (stdN x y d)) (.string x) (.slice (some ⟨gu, 0, none⟩) (k + 1) cu)) := Lib.hid (st3.set3 _ _ _)
        have O4 : Hid (OwnI (((w3.setCell ⟨w2.heap.size, 0, none⟩ (.string (stdN x y d))).setCell ⟨w2.heap.size, 1, none⟩ (.string x)).setCell ⟨w2.heap.size, 2, none⟩ (.slice (some ⟨gu, 0, none⟩) (k + 1) cu)) (w2.heap.size + 1) (.slice (some ⟨gu, 0, none⟩) (k + 1) cu) (L.take (k + 1))) := Lib.hid (by
          rw [HTK.out]
          exact OwnI.base (ownsRow_setCell_below (ownsRow_setCell_below (ownsRow_setCell_below o3 (by show w2.heap.size < wr.heap.size; omega) _) (by show w2.heap.size < wr.heap.size; omega) _) (by show w2.heap.size < wr.heap.size; omega) _) (by omega))
        have B4 : Hid (Below w2.heap.size w2 (((w3.setCell ⟨w2.heap.size, 0, none⟩ (.string (stdN x y d))).setCell ⟨w2.heap.size, 1, none⟩ (.string x)).setCell ⟨w2.heap.size, 2, none⟩ (.slice (some ⟨gu, 0, none⟩) (k + 1) cu))) := Lib.hid (((B3.setCell (p := ⟨w2.heap.size, 0, none⟩) (Nat.le_refl _) _).setCell (p := ⟨w2.heap.size, 1, none⟩) (Nat.le_refl _) _).setCell (p := ⟨w2.heap.size, 2, none⟩) (Nat.le_refl _) _)
        clear st3 o3 B3 b3 c0 c1 c2
        generalize stdN x y d = z at *
        by_cases h60 : 60 < z.size
        · have HE := Lib.hid (HN.out (by rw [HDR.out, if_pos h60]))
          have h60i : (60 : Int) < (z.size : Int) := by omega
          go_wp2_with fail
          go_ret2
          exact ⟨by rw [HE.out]; rfl, HB2.out.then B4.out⟩
        · have HE : Hid (stdF (L.drop (k + 1)) z x = stdF L letA letC) := Lib.hid (by rw [HDR.out, if_neg h60])
          have h60i : ¬ (60 : Int) < (z.size : Int) := by omega
          have HU2 : Hid (L.take (k + 1) = [] → Value.slice (some ⟨gu, 0, none⟩) (k + 1) cu = .slice none 0 0) := Lib.hid fun e => by rw [HTK.out] at e; simp at e
          go_wp2_with fail
          go_roundg g1
          case measure => omega
          case rel => exact ⟨k + 1, z, x, _, by omega, by go_num, ST4.out, O4.out, HU2, by omega, hx, HE, B4.out⟩
      · obtain rfl : gk = 0 := by omega
        obtain rfl : k = L.length := by omega
        have hpi : ¬ (L.length : Int) < (L.length : Int) := by omega
        have HE := Lib.hid (HY.out x (by rw [← HS.out]; exact stdF_end (Nat.le_refl _) x y))
        have KC := Lib.hid fun W => strings_Clone x W (by omega)
        have c0 := st.c0
        clear st own
        go_wp2_with fail
        refine (KC.out _).mono ?_
        rintro e w3 ⟨rfl, b3⟩
        go_wp2_with fail
        go_ret2
        exact ⟨by rw [HE.out]; rfl, HB2.out.then (hB.then b3)⟩
  · rw [decide_eq_false k] at ci
    have CI := Lib.hid (ci w h)
    rw [stR_bad k]
    clear ci h hk k
    go_enter Try.func19, Try.ntmps19
    go_wp2_with fail
    refine CI.out.mono ?_
    rintro e w1 ⟨rfl, b1⟩
    go_wp2_with fail
    go_ret2
    exact ⟨rfl, b1⟩

theorem pow_more {x : ByteArray} {k d : Nat} (h : k ≤ d) : (pow x k).size ≤ (pow x d).size := by
  rw [pow_size, pow_size]
  exact Nat.mul_le_mul_left _ h

set_option maxRecDepth 100000 in
set_option maxHeartbeats 4000000 in
theorem l08Standard_any (B : Nat) (v : Value) (L : List Int) (w : World) (h : OwnI w B v L) (hk : okSt L) :
    Calls Try.prog 49 #[v] w fun e w' => e = .returned (.tuple #[.string ((stdF L letA letC).getD tE), .bool (stdF L letA letC).isSome]) ∧ Below w.heap.size w w' := by
  obtain ⟨a, c, rfl, hkc⟩ := h.lk
  have HK := Lib.hid hkc
  have hl20 := hk.1
  have OK := Lib.hid hk.2
  obtain ⟨R, hR⟩ : ∃ R, stdF L letA letC = R := ⟨_, rfl⟩
  have HR := Lib.hid hR
  rw [hR]
  clear h hk hkc hR
  go_enter Try.func49, Try.ntmps49
  go_wp2
  go_loopg [4, 5, 6] L.length (fun gk s4 s5 s6 wr => ∃ (k : Nat) (x y : ByteArray), k + gk = L.length ∧ s6 = .int .i64 (k : Int) ∧ s5 = .string x ∧ s4 = .string y ∧ x.size ≤ 60 ∧ y.size ≤ 60 ∧ Hid (stdF (L.drop k) x y = R) ∧ w = wr)
  case atStart => exact ⟨0, letA, letC, by omega, rfl, rfl, rfl, by decide, by decide, HR, rfl⟩
  case round =>
    obtain ⟨k, x, y, hkg, rfl, rfl, rfl, hx, hy, HS, hwr⟩ := hrel
    subst hwr
    by_cases hp : k < L.length
    · obtain ⟨g1, rfl⟩ : ∃ j, gk = j + 1 := ⟨gk - 1, by omega⟩
      have hpi : (k : Int) < (L.length : Int) := by omega
      obtain ⟨g, rfl, hkc, hg, kc⟩ := HK.out k hp
      obtain ⟨o1, o2⟩ := OK.out k hp
      have hdr := stdF_drop hp x y
      rw [HS.out] at hdr
      obtain ⟨d, hd⟩ := Int.eq_ofNat_of_zero_le (show 0 ≤ L[k]'hp by omega)
      rw [hd] at kc hdr
      have hd60 : d ≤ 60 := by omega
      rw [Int.toNat_natCast] at hdr
      have HDR := Lib.hid hdr
      clear hdr hd o1 o2
      go_wp2
      go_loopg [7, 8] 61 (fun gk s7 s8 wr => ∃ (q : Nat) (t : ByteArray), q + gk = 61 ∧ q ≤ d ∧ s8 = .int .i64 (q : Int) ∧ s7 = .string t ∧ t.size ≤ 120 ∧ Hid (t = pow x q) ∧ w = wr)
      case atStart => exact ⟨0, ⟨#[]⟩, by omega, by omega, rfl, rfl, by decide, Lib.hid (pow_zero x).symm, rfl⟩
      case round =>
        obtain ⟨q, t, hqg, hqd, rfl, rfl, ht, HT, hwr⟩ := hrel
        subst hwr
        by_cases hq : q < d ∧ t.size ≤ 60
        · obtain ⟨g2, rfl⟩ : ∃ j, gk = j + 1 := ⟨gk - 1, by omega⟩
          obtain ⟨q1, q2⟩ := hq
          have q1i : (q : Int) < (d : Int) := by omega
          have q1d : decide ((q : Int) < (d : Int)) = true := by simp; omega
          have q2i : (t.size : Int) ≤ 60 := by omega
          have HT2 : Hid (t ++ x = pow x (q + 1)) := Lib.hid (by rw [HT.out, pow_succ])
          have HTS : Hid ((t ++ x).size ≤ 120) := Lib.hid (by rw [ByteArray.size_append]; omega)
          go_wp2
          go_roundg g2
          case measure => omega
          case rel => exact ⟨q + 1, t ++ x, by omega, by omega, by go_num, rfl, HTS.out, HT2, rfl⟩
        · have hts : (t ++ y).size ≤ 180 := by rw [ByteArray.size_append]; omega
          have htl : (t ++ y).size = t.size + y.size := ByteArray.size_append ..
          by_cases hbig : 60 < t.size + y.size
          · have HN : Hid (R = none) := Lib.hid (by
              rw [HDR.out, if_pos]
              rw [stdN_size, ← pow_size]
              have := pow_more (x := x) hqd
              rw [← HT.out] at this
              omega)
            have hbigi : (60 : Int) < (t.size : Int) + (y.size : Int) := by omega
            by_cases q1 : q < d
            · have q1i : (q : Int) < (d : Int) := by omega
              have q1d : decide ((q : Int) < (d : Int)) = true := by simp; omega
              have q2i : ¬ (t.size : Int) ≤ 60 := by omega
              clear hts htl hbig hq q1
              go_wp2
              go_ret2
              exact ⟨by rw [HN.out]; rfl, Below.refl _ _⟩
            · have q1i : ¬ (q : Int) < (d : Int) := by omega
              have q1d : decide ((q : Int) < (d : Int)) = false := by simp; omega
              clear hts htl hbig hq q1
              go_wp2
              go_ret2
              exact ⟨by rw [HN.out]; rfl, Below.refl _ _⟩
          · have q1 : ¬ q < d := fun e => hq ⟨e, by omega⟩
            obtain rfl : q = d := by omega
            have q1i : ¬ (q : Int) < (q : Int) := by omega
            have q1d : decide ((q : Int) < (q : Int)) = false := by simp
            have hbigi : ¬ (60 : Int) < (t.size : Int) + (y.size : Int) := by omega
            have HE : Hid (stdF (L.drop (k + 1)) (t ++ y) x = R) := Lib.hid (by
              have e : stdN x y q = t ++ y := by unfold stdN; rw [HT.out]
              rw [HDR.out, e, if_neg (by omega)])
            have HTS : Hid ((t ++ y).size ≤ 60) := Lib.hid (by omega)
            clear hts htl hbig hq q1
            go_wp2
            go_roundg g1
            case measure => omega
            case rel => exact ⟨k + 1, t ++ y, x, by omega, by go_num, rfl, rfl, HTS.out, hx, HE, rfl⟩
    · obtain rfl : gk = 0 := by omega
      obtain rfl : k = L.length := by omega
      have hpi : ¬ (L.length : Int) < (L.length : Int) := by omega
      have HE : Hid (R = some x) := Lib.hid (by rw [← HS.out]; exact stdF_end (Nat.le_refl _) x y)
      go_wp2
      go_ret2
      exact ⟨by rw [HE.out]; rfl, Below.refl _ _⟩

set_option maxRecDepth 100000 in
set_option maxHeartbeats 4000000 in
theorem spec_StandardWord (B : Nat) (v : Value) (L : List Int) (w : World) (h : OwnI w B v L) (hl : L.length ≤ 1048576) :
    Calls Try.prog 17 #[v] w fun e w' => e = .returned (.tuple #[.string (stR L).1, .int .i64 (stR L).2]) ∧ Below w.heap.size w w' := by
  have H := Lib.hid h
  obtain ⟨a, c, rfl, hkc⟩ := h.lk
  have HK := Lib.hid hkc
  by_cases hl20 : L.length ≤ 20
  · obtain ⟨R, hR⟩ : ∃ R, stR L = R := ⟨_, rfl⟩
    have HB : Hid (¬ okSt L → R = (tE, 2)) := Lib.hid fun e => by rw [← hR]; exact stR_bad e
    have HN : Hid (okSt L → stdF L letA letC = none → R = (tE, 3)) := Lib.hid fun k e => by rw [← hR]; exact stR_none k e
    have HY : Hid (okSt L → ∀ x, stdF L letA letC = some x → R = (x, 0)) := Lib.hid fun k x e => by rw [← hR]; exact stR_some k e
    rw [hR]
    clear h hkc hR
    go_enter Try.func17, Try.ntmps17
    go_wp2
    go_loopg [4] L.length (fun gk s4 wr => ∃ k : Nat, k + gk = L.length ∧ s4 = .int .i64 (k : Int) ∧ Hid (okStTo L k) ∧ Below w.heap.size w wr)
    case atStart => exact ⟨0, by omega, rfl, Lib.hid (okStTo.zero L), Below.refl _ _⟩
    case round =>
      obtain ⟨k, hkg, rfl, HO, hB⟩ := hrel
      by_cases hp : k < L.length
      · obtain ⟨g1, rfl⟩ : ∃ j, gk = j + 1 := ⟨gk - 1, by omega⟩
        have hpi : (k : Int) < (L.length : Int) := by omega
        obtain ⟨g, rfl, hkc, hg, kc0⟩ := HK.out k hp
        have kc : wr.cell? ⟨g, k, none⟩ = some (.int .i64 (L[k]'hp)) := by rw [(bcell hB).1 g k hg]; exact kc0
        have HS : Hid (((min k 1 : Nat) : Int) ≤ L[k]'hp → L[k]'hp ≤ 60 → okStTo L (k + 1)) := Lib.hid fun a b => HO.out.succ hp a b
        have HF : Hid (¬ (((min k 1 : Nat) : Int) ≤ L[k]'hp ∧ L[k]'hp ≤ 60) → R = (tE, 2)) := Lib.hid fun a => HB.out fun q => a (q.2 k hp)
        clear kc0
        generalize L[k]'hp = z at *
        by_cases hin : 0 ≤ z ∧ z ≤ 60
        · have CI := Lib.hid fun W => l01In_yes z 0 60 W hin.1 hin.2
          have hin1 := hin.1
          by_cases hk0 : 0 < k
          · have hk0i : (0 : Int) < (k : Int) := by omega
            have hk0d : decide ((0 : Int) < (k : Int)) = true := by simp; omega
            by_cases hz0 : z = 0
            · have HE := Lib.hid (HF.out (by omega))
              clear hin hin1 hk0
              subst hz0
              go_wp2_with fail
              refine (CI.out _).mono ?_
              rintro e w2 ⟨rfl, b2⟩
              have k2 : w2.cell? ⟨g, k, none⟩ = some (.int .i64 0) := by rw [(bcell (hB.then b2)).1 g k hg, ← (bcell hB).1 g k hg]; exact kc
              go_wp2_with fail
              go_ret2
              exact ⟨by rw [HE.out]; rfl, hB.then b2⟩
            · have HE := Lib.hid (HS.out (by omega) (by omega))
              have hz0b : (z == 0) = false := by simp [hz0]
              clear hin hk0
              go_wp2_with fail
              refine (CI.out _).mono ?_
              rintro e w2 ⟨rfl, b2⟩
              have k2 : w2.cell? ⟨g, k, none⟩ = some (.int .i64 z) := by rw [(bcell (hB.then b2)).1 g k hg, ← (bcell hB).1 g k hg]; exact kc
              go_wp2_with fail
              go_roundg g1
              case measure => omega
              case rel => exact ⟨k + 1, by omega, by go_num, HE, hB.then b2⟩
          · have hk0i : ¬ (0 : Int) < (k : Int) := by omega
            have hk0d : decide ((0 : Int) < (k : Int)) = false := by simp; omega
            have HE := Lib.hid (HS.out (by omega) (by omega))
            clear hin hk0
            go_wp2_with fail
            refine (CI.out _).mono ?_
            rintro e w2 ⟨rfl, b2⟩
            go_wp2_with fail
            go_roundg g1
            case measure => omega
            case rel => exact ⟨k + 1, by omega, by go_num, HE, hB.then b2⟩
        · have CI := Lib.hid fun W => l01In_no z 0 60 W hin
          have HE := Lib.hid (HF.out (by omega))
          clear hin
          go_wp2_with fail
          refine (CI.out _).mono ?_
          rintro e w2 ⟨rfl, b2⟩
          go_wp2_with fail
          go_ret2
          exact ⟨by rw [HE.out]; rfl, hB.then b2⟩
      · obtain rfl : gk = 0 := by omega
        obtain rfl : k = L.length := by omega
        have hpi : ¬ (L.length : Int) < (L.length : Int) := by omega
        have hok : okSt L := HO.out.whole (Nat.le_refl _) hl20
        have cs := l08Standard_any B _ L wr (H.out.below hB) hok
        have HN2 := Lib.hid (HN.out hok)
        have HY2 := Lib.hid (HY.out hok)
        clear hok
        cases hst : stdF L letA letC with
        | none =>
          rw [hst] at cs
          have HE := Lib.hid (HN2.out hst)
          have CS : Hid (Calls Try.prog 49 #[.slice a L.length c] wr fun e w' => e = .returned (.tuple #[.string tE, .bool false]) ∧ Below wr.heap.size wr w') := Lib.hid cs
          clear cs hst
          go_wp2_with fail
          refine CS.out.mono ?_
          rintro e w2 ⟨rfl, b2⟩
          go_wp2_with fail
          go_ret2
          exact ⟨by rw [HE.out]; rfl, hB.then b2⟩
        | some x =>
          rw [hst] at cs
          have HE := Lib.hid (HY2.out x hst)
          have CS : Hid (Calls Try.prog 49 #[.slice a L.length c] wr fun e w' => e = .returned (.tuple #[.string x, .bool true]) ∧ Below wr.heap.size wr w') := Lib.hid cs
          clear cs hst
          go_wp2_with fail
          refine CS.out.mono ?_
          rintro e w2 ⟨rfl, b2⟩
          go_wp2_with fail
          go_ret2
          exact ⟨by rw [HE.out]; rfl, hB.then b2⟩
  · rw [stR_bad (fun k => hl20 k.1)]
    have hl20i : (20 : Int) < (L.length : Int) := by omega
    clear h hkc
    go_enter Try.func17, Try.ntmps17
    go_wp2
    go_ret2
    exact ⟨rfl, Below.refl _ _⟩

end Go.Proofs.Ytddfdciohnabbaa
