/- Grown words: the program. -/
import Derived.Test.YtolboinemechpabGrowI
import Derived.Test.YtolboinemechpabImg
import Derived.Test.YtolboinemechpabMorP
namespace Go.Proofs.Ytolboinemechpab
set_option linter.unusedVariables false
set_option linter.unusedSimpArgs false
open Go.RowKit

theorem slice_0mG (x : ByteArray) (m : Nat) (hm : m ≤ x.size) (W : World) :
    (Instr.slice 9 (.string x) none (some (.int .i64 (m : Int))) none).run Try.prog W = .ok (.string (x.extract 0 m)) W := by
  have := run_slice_string_h (P := Try.prog) W 9 x Try.underlying9 .i64 (m : Int) (by omega) (by omega)
  simpa using this
theorem bt_takeG (l : List UInt8) (n : Nat) : (bt l).extract 0 n = bt (l.take n) := bl_inj (by
  rw [bl_extract]
  show (l.drop 0).take (n - 0) = l.take n
  rw [List.drop_zero, Nat.sub_zero])
theorem hk_first {I : List (List UInt8)} {a : UInt8} {u : List UInt8} (hu : img I a = a :: u) (K : Nat) : (hk I K [a]).take 1 = [a] := by
  obtain ⟨t, e⟩ := hk_pre hu (Nat.zero_le K)
  rw [hk_zero] at e
  rw [← e]
  rfl

set_option maxRecDepth 100000 in
set_option maxHeartbeats 4000000 in
theorem impl_GrownWord_yes (B : Nat) (v : Value) (I : List (List UInt8)) (q n : Nat) (w : World) (h : OwnS w B v (I.map bt)) (t : Tot I) (g : Mor I) (hq : q < I.length) (hn : n ≤ 60) (hgw : gw I q) :
    Calls Try.prog 39 #[.agg #[v], .int .i64 (q : Int), .int .i64 (n : Int)] w fun e w' => e = .returned (.tuple #[.string (bt (grownW I (letr q) n)), .int .i64 0]) ∧ Below w.heap.size w w' := by
  have h1 := g.len1
  have h5 := g.len5
  obtain ⟨L, hL⟩ : ∃ L, hk I 61 [letr q] = L := ⟨_, rfl⟩
  have hmore := fun p (a : 1 ≤ p) (b : p ≤ 61) => grown_more g hq hgw a b
  have hdone := fun p (a : n ≤ (imgOf I ((hk I 61 [letr q]).take p)).length) => grown_done (n := n) g hq hgw (K := 61) (p := p) a
  have hfirst : imgOf I ((hk I 61 [letr q]).take 1) = I[q]'hq := by
    obtain ⟨u, hu, _⟩ := id hgw
    rw [hk_first hu, show imgOf I [letr q] = img I (letr q) from by unfold imgOf; simp, img_letr g hq]
  have hll : lets I (hk I 61 [letr q]) := hk_lets g 61 (lets_one g hq)
  rw [hL] at hmore hdone hfirst hll
  have c1 := fun W h => isMor_yes B v I W h g
  have c2 := fun W h => isLetter_any B v I (q : Int) W h t
  rw [decide_eq_true (show 0 ≤ (q : Int) ∧ (q : Int) < (I.length : Int) by omega)] at c2
  have c3 := fun W h => growsLetter_any B v I q true W h g hq ⟨fun _ => hgw, fun _ => rfl⟩
  have im12 := fun j hj => (g.im j hj).1
  obtain ⟨p, cap, rfl, hg, hc, cell⟩ := h.rowM (by omega)
  have BN : Below w.heap.size w (w.alloc (.cells #[.slice (some ⟨p, 0, none⟩) I.length cap] 53)) := Below.new _ _
  have QN : Boxed (w.alloc (.cells #[.slice (some ⟨p, 0, none⟩) I.length cap] 53)) w.heap.size 53 (.slice (some ⟨p, 0, none⟩) I.length cap) := Boxed.new _ _ _
  have C1 := Lib.hid c1
  have C2 := Lib.hid c2
  have C3 := Lib.hid c3
  have H := Lib.hid h
  have HBN := Lib.hid BN
  have HQN := Lib.hid QN
  have C := Lib.hid cell
  have HM := Lib.hid hmore
  have HD := Lib.hid hdone
  have HF := Lib.hid hfirst
  have HLL := Lib.hid hll
  have HIM := Lib.hid im12
  clear h t g hgw hL hmore hdone hfirst hll c1 c2 c3 im12 cell BN QN
  have hqc : q < cap := by omega
  have hqi : (q : Int) < (I.length : Int) := by omega
  have hq0 : (0 : Int) ≤ (q : Int) := by omega
  have hni : ¬ 60 < (n : Int) := by omega
  have hn0 : ¬ (n : Int) < 0 := by omega
  go_enter Try.func39, Try.ntmps39
  go_wp2_with fail
  refine (C1.out _ (H.out.below HBN.out)).mono ?_
  rintro e w1 ⟨rfl, b1⟩
  have q1 := boxed_later HQN.out b1
  have kq := q1.cell
  have B1 := HBN.out.then b1
  go_wp2_with fail
  refine (C2.out _ (H.out.below B1)).mono ?_
  rintro e w2 ⟨rfl, b2⟩
  have q2 := boxed_later q1 b2
  have B2 := B1.then b2
  clear kq q1 b1 B1
  have kq := q2.cell
  go_wp2_with fail
  refine (C3.out _ (H.out.below B2)).mono ?_
  rintro e w3 ⟨rfl, b3⟩
  have q3 := boxed_later q2 b3
  have B3 := B2.then b3
  clear kq q2 b2 B2 b3
  have kq := q3.cell
  have hz3 := B3.size
  have kc : w3.cell? ⟨p, q, none⟩ = some (.string (bt (I[q]'hq))) := by rw [(bcell B3).1 p q hg]; exact C.out q hq
  rw [← HF.out] at kc
  go_wp2_with fail
  go_loopw [8, 9] (fun s9 pl wr => ∃ k : Nat, 1 ≤ k ∧ k ≤ 61 ∧ pl = .int .i64 (k : Int) ∧ s9 = .string (bt (imgOf I (L.take k))) ∧ Below w3.heap.size w3 wr) (fun _ pl _ => 61 - (intOf pl).toNat)
  case atStart => exact ⟨1, Nat.le_refl _, by omega, rfl, rfl, Below.refl _ _⟩
  case round =>
    clear kc kq
    obtain ⟨k, hk1, hk61, rfl, rfl, hB⟩ := hrel
    have kq := (boxed_later q3 hB).cell
    have hys : (bt (imgOf I (L.take k))).size = (imgOf I (L.take k)).length := bt_size _
    obtain ⟨m1, m2, m3, m4⟩ := HM.out k hk1 hk61
    by_cases hp : (imgOf I (L.take k)).length < n
    · obtain ⟨n1, hn1, e1, e2, _⟩ := letter_img HLL.out k m3
      have hyk : (bt (imgOf I (L.take k)))[k]'(by rw [hys]; exact m1) = L[k]'m3 := m2 m1 m3
      rw [← hyk] at e1
      have kc : wr.cell? ⟨p, n1, none⟩ = some (.string (bt (I[n1]'hn1))) := by rw [(bcell (B3.then hB)).1 p n1 hg]; exact C.out n1 hn1
      have hz12 : (bt (I[n1]'hn1)).size ≤ 12 := HIM.out n1 hn1
      have HN : Hid (bt (imgOf I (L.take k)) ++ bt (I[n1]'hn1) = bt (imgOf I (L.take (k + 1)))) := Lib.hid (by
        apply bl_inj
        rw [bl_append, imgOf_take I L k m3, e2]
        rfl)
      have hsum : ∀ W, (Op.stringOp .add (bt (imgOf I (L.take k))) (bt (I[n1]'hn1))).run Try.prog W = .ok (.string (bt (imgOf I (L.take k)) ++ bt (I[n1]'hn1))) W := fun W => run_string_add_sum W _ _ (by omega)
      have hky : k < (bt (imgOf I (L.take k))).size := by omega
      have hkyi : (k : Int) < ((bt (imgOf I (L.take k))).size : Int) := by omega
      have hlt : ((bt (imgOf I (L.take k))).size : Int) < (n : Int) := by omega
      have hnc : n1 < cap := by omega
      have hni1 : (n1 : Int) < (I.length : Int) := by omega
      have hn10 : (0 : Int) ≤ (n1 : Int) := by omega
      have hk0 : (0 : Int) ≤ (k : Int) := by omega
      have hkk : k < 61 := by omega
      clear hyk m2 e2
      generalize bt (I[n1]'hn1) = z at *
      generalize bt (imgOf I (L.take k)) = y at *
      generalize y ++ z = y2 at *
      go_wp2
      go_quiet (fail)
      go_wp2_with fail
      exact ⟨⟨k + 1, by omega, by omega, by go_num, by rw [HN.out], hB.drewN _⟩, by simp [intOf]; omega⟩
    · have HDD := Lib.hid (HD.out k (by omega))
      have hsl := fun W => slice_0mG (bt (imgOf I (L.take k))) n (by omega) W
      rw [bt_takeG, HDD.out] at hsl
      have hlt : ¬ ((bt (imgOf I (L.take k))).size : Int) < (n : Int) := by omega
      have hgs : (grownW I (letr q) n).length ≤ 60 := by rw [← HDD.out, List.length_take]; omega
      have hgs2 : (bt (grownW I (letr q) n)).size ≤ 60 := by rw [bt_size]; exact hgs
      clear HDD hys
      obtain ⟨R, hR⟩ : ∃ R, bt (grownW I (letr q) n) = R := ⟨_, rfl⟩
      rw [hR] at hsl hgs2
      have HRR := Lib.hid hR
      clear hR
      generalize bt (imgOf I (L.take k)) = y at *
      go_wp2_with (go_at_call 84; refine (strings_Clone R _ (by omega)).mono ?_; rintro e w4 ⟨rfl, b4⟩)
      go_ret2
      rw [HRR.out]
      exact ⟨rfl, (B3.then hB).then b4⟩

set_option maxRecDepth 100000 in
set_option maxHeartbeats 2000000 in
theorem impl_GrownWord (B : Nat) (v : Value) (I : List (List UInt8)) (q n : Int) (w : World) (h : OwnS w B v (I.map bt)) (t : Tot I) (wq : (Lit.int .i64 q).wf = true) (wn : (Lit.int .i64 n).wf = true) :
    Calls Try.prog 39 #[.agg #[v], .int .i64 q, .int .i64 n] w fun e w' => e = .returned (.tuple #[.string (growR I q n).1, .int .i64 (growR I q n).2]) ∧ Below w.heap.size w w' := by
  obtain ⟨p, c, hv⟩ := ownS_value h
  rw [List.length_map] at hv
  subst hv
  have BN : Below w.heap.size w (w.alloc (.cells #[.slice p I.length c] 53)) := Below.new _ _
  have QN : Boxed (w.alloc (.cells #[.slice p I.length c] 53)) w.heap.size 53 (.slice p I.length c) := Boxed.new _ _ _
  by_cases g : Mor I
  · have C1 := Lib.hid fun W h => isMor_yes B (.slice p I.length c) I W h g
    by_cases hb : 0 ≤ q ∧ q < (I.length : Int)
    · have c2 := fun W h => isLetter_any B (.slice p I.length c) I q W h t
      rw [decide_eq_true hb] at c2
      by_cases hn : 0 ≤ n ∧ n ≤ 60
      · obtain ⟨qn, rfl⟩ : ∃ qn : Nat, q = (qn : Int) := ⟨q.toNat, by omega⟩
        obtain ⟨k, rfl⟩ : ∃ k : Nat, n = (k : Int) := ⟨n.toNat, by omega⟩
        by_cases hgw : gw I qn
        · rw [growR_yes g (by omega) (by omega) hgw]
          exact impl_GrownWord_yes B _ I qn k w h t g (by omega) (by omega) hgw
        · rw [growR_no g (by omega) (by omega) hgw]
          have C3 := Lib.hid fun W h => growsLetter_any B (.slice p I.length c) I qn false W h g (by omega) ⟨fun e => (by cases e), fun e => absurd e hgw⟩
          have C2 := Lib.hid c2
          have HBN := Lib.hid BN
          have HQN := Lib.hid QN
          have H := Lib.hid h
          have hni : ¬ 60 < (k : Int) := by omega
          have hn0 : ¬ (k : Int) < 0 := by omega
          clear h t g hgw c2 BN QN hb hn
          go_enter Try.func39, Try.ntmps39
          go_wp2_with fail
          refine (C1.out _ (H.out.below HBN.out)).mono ?_
          rintro e w1 ⟨rfl, b1⟩
          have q1 := boxed_later HQN.out b1
          have kq := q1.cell
          have B1 := HBN.out.then b1
          go_wp2_with fail
          refine (C2.out _ (H.out.below B1)).mono ?_
          rintro e w2 ⟨rfl, b2⟩
          have q2 := boxed_later q1 b2
          have B2 := B1.then b2
          clear kq q1 b1 B1
          have kq := q2.cell
          go_wp2_with fail
          refine (C3.out _ (H.out.below B2)).mono ?_
          rintro e w3 ⟨rfl, b3⟩
          go_wp2_with fail
          go_ret2
          exact ⟨rfl, B2.then b3⟩
      · rw [growR_out g (by omega)]
        have C2 := Lib.hid c2
        have HBN := Lib.hid BN
        have HQN := Lib.hid QN
        have H := Lib.hid h
        rcases (show n < 0 ∨ (¬ n < 0 ∧ 60 < n) by omega) with h2 | ⟨h2, h3⟩
        all_goals
          clear h t g c2 BN QN hb hn
          go_enter Try.func39, Try.ntmps39
          go_wp2_with fail
          refine (C1.out _ (H.out.below HBN.out)).mono ?_
          rintro e w1 ⟨rfl, b1⟩
          have q1 := boxed_later HQN.out b1
          have kq := q1.cell
          have B1 := HBN.out.then b1
          go_wp2_with fail
          refine (C2.out _ (H.out.below B1)).mono ?_
          rintro e w2 ⟨rfl, b2⟩
          go_wp2_with fail
          go_ret2
          exact ⟨rfl, B1.then b2⟩
    · rw [growR_out g (by omega)]
      have c2 := fun W h => isLetter_any B (.slice p I.length c) I q W h t
      rw [decide_eq_false hb] at c2
      have C2 := Lib.hid c2
      have HBN := Lib.hid BN
      have HQN := Lib.hid QN
      have H := Lib.hid h
      clear h t g c2 BN QN hb
      go_enter Try.func39, Try.ntmps39
      go_wp2_with fail
      refine (C1.out _ (H.out.below HBN.out)).mono ?_
      rintro e w1 ⟨rfl, b1⟩
      have q1 := boxed_later HQN.out b1
      have kq := q1.cell
      have B1 := HBN.out.then b1
      go_wp2_with fail
      refine (C2.out _ (H.out.below B1)).mono ?_
      rintro e w2 ⟨rfl, b2⟩
      go_wp2_with fail
      go_ret2
      exact ⟨rfl, B1.then b2⟩
  · rw [growR_bad g]
    have C1 := Lib.hid fun W h => isMor_no B (.slice p I.length c) I W h t g
    have HBN := Lib.hid BN
    have HQN := Lib.hid QN
    have H := Lib.hid h
    clear h t g BN QN
    go_enter Try.func39, Try.ntmps39
    go_wp2_with fail
    refine (C1.out _ (H.out.below HBN.out)).mono ?_
    rintro e w1 ⟨rfl, b1⟩
    go_wp2_with fail
    go_ret2
    exact ⟨rfl, HBN.out.then b1⟩

end Go.Proofs.Ytolboinemechpab
