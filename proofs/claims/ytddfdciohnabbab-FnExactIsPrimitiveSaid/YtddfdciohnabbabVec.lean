/- Five numbers, one for each letter, as an array: made, told, added up. -/
import Derived.Test.YtddfdciohnabbabImgS
import Derived.Test.YtddfdciohnabbabVecPlain
import Derived.Test.YtddfdciohnabbabV5
import Derived.Test.YtddfdciohnabbabNumbers
import Derived.StillTailTactics
import Derived.RangeFuncBox
import Derived.ChangeKeysEq
import Derived.IntWalk
namespace Go.Proofs.Ytddfdciohnabbab
set_option linter.unusedVariables false
set_option linter.unusedSimpArgs false
open Go.RowKit

set_option maxRecDepth 100000 in
set_option maxHeartbeats 1000000 in
theorem oneLetter_any (q : Nat) (hq : q < 5) (w : World) :
    Calls Try.prog 120 #[.int .i64 (q : Int)] w fun e w' => e = .returned (vecV (ct [letr q])) ∧ Below w.heap.size w w' := by
  rcases (show q = 0 ∨ q = 1 ∨ q = 2 ∨ q = 3 ∨ q = 4 by omega) with rfl | rfl | rfl | rfl | rfl
  all_goals
    go_enter Try.func120, Try.ntmps120
    go_wp2
    exact bodyPost_ret (v := vecV (ct [letr _])) (by simp [results, Try.results120, go_sem]; decide) rfl ⟨rfl, (Below.new _ _).alloc (by simp) _⟩

set_option maxRecDepth 100000 in
set_option maxHeartbeats 2000000 in
theorem counts_any (B : Nat) (v : Value) (I : List (List UInt8)) (cnt : Nat → Nat) (w : World) (h : OwnS w B v (I.map bt)) (g : Mor I) (hM : ∀ j, j < 5 → acc I cnt j I.length ≤ 4000000000000000000) :
    Calls Try.prog 121 #[.agg #[v], vecV cnt] w fun e w' => e = .returned (vecV (fun j => acc I cnt j I.length)) ∧ Below w.heap.size w w' := by
  have hmo : Try.prog.follows .mixedOrders = true := by kernel_rfl
  have h1 := g.len1
  have h5 := g.len5
  obtain ⟨p, cap, rfl, hg, hc, cell⟩ := h.rowM (by omega)
  obtain ⟨W1, hW1⟩ : ∃ W1 : World, W1 = (((w.alloc (.cells #[.slice (some ⟨p, 0, none⟩) I.length cap] 57)).alloc (.cells #[.int .i64 (cnt 0 : Int), .int .i64 (cnt 1 : Int), .int .i64 (cnt 2 : Int), .int .i64 (cnt 3 : Int), .int .i64 (cnt 4 : Int)] 91)).alloc (.cells #[.int .i64 0, .int .i64 0, .int .i64 0, .int .i64 0, .int .i64 0] 91)).alloc (.cells #[.int .i64 0, .int .i64 0, .int .i64 0, .int .i64 0, .int .i64 0] 91) := ⟨_, rfl⟩
  have a1 : Arr5 W1 (w.heap.size + 1) cnt := by
    have := Arr5.new (w.alloc (.cells #[.slice (some ⟨p, 0, none⟩) I.length cap] 57)) cnt
    rw [World.size_alloc] at this
    rw [hW1]
    exact (this.later (Below.new _ _)).later (Below.new _ _)
  have a2 : Arr5 W1 (w.heap.size + 1 + 1) (fun _ => 0) := by
    have := Arr5.new ((w.alloc (.cells #[.slice (some ⟨p, 0, none⟩) I.length cap] 57)).alloc (.cells #[.int .i64 (cnt 0 : Int), .int .i64 (cnt 1 : Int), .int .i64 (cnt 2 : Int), .int .i64 (cnt 3 : Int), .int .i64 (cnt 4 : Int)] 91)) (fun _ => 0)
    simp only [World.size_alloc] at this
    rw [hW1]
    exact this.later (Below.new _ _)
  have a3 : Arr5 W1 (w.heap.size + 1 + 1 + 1) (fun _ => 0) := by
    have := Arr5.new (((w.alloc (.cells #[.slice (some ⟨p, 0, none⟩) I.length cap] 57)).alloc (.cells #[.int .i64 (cnt 0 : Int), .int .i64 (cnt 1 : Int), .int .i64 (cnt 2 : Int), .int .i64 (cnt 3 : Int), .int .i64 (cnt 4 : Int)] 91)).alloc (.cells #[.int .i64 0, .int .i64 0, .int .i64 0, .int .i64 0, .int .i64 0] 91)) (fun _ => 0)
    simp only [World.size_alloc] at this
    rw [hW1]
    exact this
  have B1 : Below w.heap.size w W1 := by rw [hW1]; exact (((Below.new _ _).alloc (by simp) _).alloc (by simp; omega) _).alloc (by simp; omega) _
  have hz1 : W1.heap.size = w.heap.size + 4 := by rw [hW1]; simp
  have C := Lib.hid cell
  have G := Lib.hid g
  have HM := Lib.hid hM
  have HZ := Lib.hid hz1
  have HW1 := Lib.hid hW1
  have A1 := Lib.hid a1
  have A2 := Lib.hid a2
  have A3 := Lib.hid a3
  have hbase : w.heap.size + 4 ≤ W1.heap.size := by omega
  clear h cell g hM a1 a2 a3 hW1 hz1
  go_enter Try.func121, Try.ntmps121
  go_wp2_with fail
  rw [← HW1.out]
  go_loopw [13] (fun t wr => ∃ i : Nat, i ≤ I.length ∧ t = .int .i64 (i : Int) ∧ Arr5 wr (w.heap.size + 1) cnt ∧ Arr5 wr (w.heap.size + 1 + 1) (fun _ => 0) ∧ Arr5 wr (w.heap.size + 1 + 1 + 1) (fun j => acc I cnt j i) ∧ Below w.heap.size w wr ∧ w.heap.size + 4 ≤ wr.heap.size) (fun t _ => I.length - (intOf t).toNat)
  case atStart => exact ⟨0, Nat.zero_le _, rfl, A1.out, A2.out, A3.out, B1, hbase⟩
  case round =>
    obtain ⟨i, hi, rfl, a1, a2, a3, hB, hbs⟩ := hrel
    by_cases hp : i < I.length
    · have kc : wr.cell? ⟨p, i, none⟩ = some (.string (bt (I[i]'hp))) := by rw [(bcell hB).1 p i hg]; exact C.out i hp
      obtain ⟨s12, sw, sf⟩ := G.out.im i hp
      have hlz := lets_of sw sf
      rw [lt_bt] at hlz
      have hge : I.getD i [] = I[i]'hp := by rw [List.getD_eq_getElem?_getD, List.getElem?_eq_getElem hp]; rfl
      have hacc : ∀ j, acc I cnt j (i + 1) = acc I cnt j i + cnt i * ct (I[i]'hp) j := fun j => by rw [acc_succ, hge]
      have hle : ∀ j, j < 5 → acc I cnt j i + cnt i * ct (I[i]'hp) j ≤ 4000000000000000000 := fun j hj => by
        rw [← hacc]
        exact Nat.le_trans (acc_mono I cnt j hp) (HM.out j hj)
      have hnum := numsR_len (bt (I[i]'hp))
      have hget := fun q h h' => numsR_get (bt (I[i]'hp)) q h h'
      have cn := fun W => numbersOf_any (bt (I[i]'hp)) W sw
      have hbg : ∀ q (hq : q < (I[i]'hp).length) (hq' : q < (bt (I[i]'hp)).size), (bt (I[i]'hp))[q]'hq' = (I[i]'hp)[q]'hq := fun q hq hq' => rfl
      have hbz : (bt (I[i]'hp)).size = (I[i]'hp).length := rfl
      generalize hL : I[i]'hp = L at *
      generalize bt L = z at *
      generalize numsR z = N at *
      have CN := Lib.hid cn
      have HLz := Lib.hid hlz
      have HACC := Lib.hid hacc
      have HLE := Lib.hid hle
      have HGET := Lib.hid hget
      have HBG := Lib.hid hbg
      have hN1 : N.length ≤ L.length := by omega
      have hN2 : L.length ≤ N.length := by omega
      have hz2 : z.size ≤ L.length := by omega
      have hz3 : L.length ≤ z.size := by omega
      have hic : i < cap := by omega
      have hi5 : i < 5 := by omega
      clear sw sf hlz hge hacc hle hget cn hbg hL hnum hbz
      go_wp2_with fail
      refine (CN.out _).mono ?_
      rintro e w2 ⟨vn, rfl, on, b2⟩
      obtain ⟨an, cn2, hvn⟩ := own_value5 on
      subst hvn
      replace a1 := a1.later b2
      replace a2 := a2.later b2
      replace a3 := a3.later b2
      have hB2 := hB.then b2
      have hs2 := b2.size
      have hNL : N.length ≤ 12 := by omega
      have ON := Lib.hid on
      have AA1 := Lib.hid a1
      have AA2 := Lib.hid a2
      have AA3 := Lib.hid a3
      clear on b2 a1 a2 a3
      obtain ⟨wo, rfl⟩ : ∃ wo : World, wo = wr := ⟨_, rfl⟩
      go_wp2_with fail
      go_loopw [21] (fun t wr => ∃ q : Nat, q ≤ N.length ∧ t = .int .i64 (q : Int) ∧ Arr5 wr (w.heap.size + 1) cnt ∧ Arr5 wr (w.heap.size + 1 + 1) (fun _ => 0) ∧ Arr5 wr (w.heap.size + 1 + 1 + 1) (fun j => acc I cnt j i + cnt i * ct (L.take q) j) ∧ Below w.heap.size w wr ∧ OwnI wr wo.heap.size (.slice an N.length cn2) N ∧ w2.heap.size ≤ wr.heap.size) (fun t _ => N.length - (intOf t).toNat)
      case atStart => exact ⟨0, Nat.zero_le _, rfl, AA1.out, AA2.out, by simpa [ct_nil] using AA3.out, hB2, ON.out, Nat.le_refl _⟩
      case round =>
        obtain ⟨q, hq, rfl, a1, a2, a3, hBq, on, hsq⟩ := hrel
        by_cases hqn : q < N.length
        · have hqL : q < L.length := by omega
          have hqz : q < z.size := by omega
          obtain ⟨gN, capN, hvN, _, _, hcN, _, cellN, _⟩ := on.row (by omega)
          injection hvN with e1 _ e3
          subst e1
          subst e3
          have kn := cellN q hqn
          rw [HGET.out q hqn hqz, HBG.out q hqL hqz] at kn
          obtain ⟨n1, hn1, en1, _, en2⟩ := letter_img HLz.out q hqL
          have hn5 : n1 < 5 := by omega
          rw [show ((L[q]'hqL).toNat : Int) - 97 = (n1 : Int) by omega] at kn
          have ka := a3.cell n1 hn5
          have kv := a1.cell i hi5
          have kf := a3.frozen n1
          have hct : ct (L.take (q + 1)) n1 = ct (L.take q) n1 + 1 := by
            rw [List.take_succ_eq_append_getElem hqL, ct_snoc, if_pos en2.symm]
          have hmono : ct (L.take (q + 1)) n1 ≤ ct L n1 := by
            have := ct_app (L.take (q + 1)) (L.drop (q + 1)) n1
            rw [List.take_append_drop] at this
            omega
          have hbd : acc I cnt n1 i + cnt i * ct (L.take q) n1 + cnt i ≤ 4000000000000000000 := by
            have h1 := HLE.out n1 hn5
            have h2 : cnt i * ct (L.take (q + 1)) n1 ≤ cnt i * ct L n1 := Nat.mul_le_mul_left _ hmono
            rw [hct, Nat.mul_add, Nat.mul_one] at h2
            omega
          have h3 := a3.set n1 hn5 (acc I cnt n1 i + cnt i * ct (L.take q) n1 + cnt i)
          have H3 : Hid (Arr5 (wr.setCell ⟨w.heap.size + 1 + 1 + 1, n1, none⟩ (.int .i64 ((acc I cnt n1 i + cnt i * ct (L.take q) n1 + cnt i : Nat) : Int))) (w.heap.size + 1 + 1 + 1) (fun j => acc I cnt j i + cnt i * ct (L.take (q + 1)) j)) := Lib.hid (h3.congr fun j hj => by
            by_cases e : j = n1
            · subst e
              rw [if_pos rfl, hct, Nat.mul_add, Nat.mul_one]
              omega
            · rw [if_neg e, List.take_succ_eq_append_getElem hqL, ct_snoc, if_neg (fun e2 => e (letr_inj hj hn5 (e2.symm.trans en2.symm))), Nat.add_zero])
          have HA1 := Lib.hid (a1.other (b' := w.heap.size + 1 + 1 + 1) (j := n1) (by omega) (.int .i64 ((acc I cnt n1 i + cnt i * ct (L.take q) n1 + cnt i : Nat) : Int)))
          have HA2 := Lib.hid (a2.other (b' := w.heap.size + 1 + 1 + 1) (j := n1) (by omega) (.int .i64 ((acc I cnt n1 i + cnt i * ct (L.take q) n1 + cnt i : Nat) : Int)))
          have hgw : w.heap.size + 1 + 1 + 1 ≠ gN := by
            have := (ON.out.lt gN rfl).1
            omega
          have HON : Hid (OwnI (wr.setCell ⟨w.heap.size + 1 + 1 + 1, n1, none⟩ (.int .i64 ((acc I cnt n1 i + cnt i * ct (L.take q) n1 + cnt i : Nat) : Int))) wo.heap.size (.slice (some ⟨gN, 0, none⟩) N.length cn2) N) := Lib.hid (own_setFar on hgw)
          have hBs := (hBq.drew).setCell (p := ⟨w.heap.size + 1 + 1 + 1, n1, none⟩) (by show _ ≤ w.heap.size + 1 + 1 + 1; omega) (.int .i64 ((acc I cnt n1 i + cnt i * ct (L.take q) n1 + cnt i : Nat) : Int))
          have HBs := Lib.hid hBs
          have hcast : ((acc I cnt n1 i + cnt i * ct (L.take q) n1 : Nat) : Int) + (cnt i : Int) = ((acc I cnt n1 i + cnt i * ct (L.take q) n1 + cnt i : Nat) : Int) := by omega
          generalize hX : acc I cnt n1 i + cnt i * ct (L.take q) n1 = X at *
          generalize hY : cnt i = Y at *
          have hwq : IntKind.i64.wrap ((X : Int) + (Y : Int)) = ((X + Y : Nat) : Int) := by rw [IntWalk.i64_in _ (by omega)]; exact hcast
          have hn0 : (0 : Int) ≤ (n1 : Int) := by omega
          have hn5i : (n1 : Int) < 5 := by omega
          have hi0 : (0 : Int) ≤ (i : Int) := by omega
          have hi5i : (i : Int) < 5 := by omega
          have hqc : q < cn2 := by omega
          clear hct hmono hbd h3 hBs hX hY hcast en1 en2 cellN on a1 a2 a3 hBq
          go_wp2_with fail
          go_still_tail 8, hmo
          go_wp2_with fail
          go_roundw
          case rel => exact ⟨q + 1, by omega, by go_num, HA1.out, HA2.out, H3.out, HBs.out, HON.out, by simpa using hsq⟩
          case measure => simp [intOf]; omega
        · have hqe : q = L.length := by omega
          have HT : Hid (Arr5 wr (w.heap.size + 1 + 1 + 1) (fun j => acc I cnt j (i + 1))) := Lib.hid (a3.congr fun j hj => by rw [HACC.out j, hqe, List.take_of_length_le (Nat.le_refl _)])
          have HA1 := Lib.hid a1
          have HA2 := Lib.hid a2
          have HBq := Lib.hid hBq
          clear hqe a1 a2 a3 on hBq
          go_wp2_with fail
          go_roundw
          case rel => exact ⟨i + 1, by omega, by go_num, HA1.out, HA2.out, HT.out, HBq.out, by omega⟩
          case measure => simp [intOf]; omega
    · have hie : i = I.length := by omega
      subst hie
      have k0 := a3.cell 0 (by omega)
      have k1 := a3.cell 1 (by omega)
      have k2 := a3.cell 2 (by omega)
      have k3 := a3.cell 3 (by omega)
      have k4 := a3.cell 4 (by omega)
      have r0 := a2.cell 0 (by omega)
      have r1 := a2.cell 1 (by omega)
      have r2 := a2.cell 2 (by omega)
      have r3 := a2.cell 3 (by omega)
      have r4 := a2.cell 4 (by omega)
      have f0 := a2.frozen 0
      have f1 := a2.frozen 1
      have f2 := a2.frozen 2
      have f3 := a2.frozen 3
      have f4 := a2.frozen 4
      generalize h0 : acc I cnt 0 I.length = x0 at *
      generalize h1 : acc I cnt 1 I.length = x1 at *
      generalize h2 : acc I cnt 2 I.length = x2 at *
      generalize h3 : acc I cnt 3 I.length = x3 at *
      generalize h4 : acc I cnt 4 I.length = x4 at *
      have S5 := ((((a2.set 0 (by omega) x0).set 1 (by omega) x1).set 2 (by omega) x2).set 3 (by omega) x3).set 4 (by omega) x4
      have S := Lib.hid S5
      have hBB := ((((hB.setCell (p := ⟨w.heap.size + 1 + 1, 0, none⟩) (by show _ ≤ w.heap.size + 1 + 1; omega) (.int .i64 (x0 : Int))).setCell (p := ⟨w.heap.size + 1 + 1, 1, none⟩) (by show _ ≤ w.heap.size + 1 + 1; omega) (.int .i64 (x1 : Int))).setCell (p := ⟨w.heap.size + 1 + 1, 2, none⟩) (by show _ ≤ w.heap.size + 1 + 1; omega) (.int .i64 (x2 : Int))).setCell (p := ⟨w.heap.size + 1 + 1, 3, none⟩) (by show _ ≤ w.heap.size + 1 + 1; omega) (.int .i64 (x3 : Int))).setCell (p := ⟨w.heap.size + 1 + 1, 4, none⟩) (by show _ ≤ w.heap.size + 1 + 1; omega) (.int .i64 (x4 : Int))
      have HB := Lib.hid hBB
      have E0 := Lib.hid h0
      have E1 := Lib.hid h1
      have E2 := Lib.hid h2
      have E3 := Lib.hid h3
      have E4 := Lib.hid h4
      clear a1 a2 a3 hB S5 hBB h0 h1 h2 h3 h4
      go_wp2_with fail
      refine bodyPost_ret (v := .agg #[.int .i64 (x0 : Int), .int .i64 (x1 : Int), .int .i64 (x2 : Int), .int .i64 (x3 : Int), .int .i64 (x4 : Int)]) ?_ rfl ⟨?_, HB.out⟩
      · have c0 := S.out.cell 0 (by omega)
        have c1 := S.out.cell 1 (by omega)
        have c2 := S.out.cell 2 (by omega)
        have c3 := S.out.cell 3 (by omega)
        have c4 := S.out.cell 4 (by omega)
        simp at c0 c1 c2 c3 c4
        simp [results, Try.results121, go_sem, c0, c1, c2, c3, c4]
      · show _ = Ending.returned (.agg #[.int .i64 ((acc I cnt 0 I.length : Nat) : Int), .int .i64 ((acc I cnt 1 I.length : Nat) : Int), .int .i64 ((acc I cnt 2 I.length : Nat) : Int), .int .i64 ((acc I cnt 3 I.length : Nat) : Int), .int .i64 ((acc I cnt 4 I.length : Nat) : Int)])
        rw [E0.out, E1.out, E2.out, E3.out, E4.out]
end Go.Proofs.Ytddfdciohnabbab
