/- Grown words: the model. -/
import Derived.Test.YtolboinemechpabMort
import Derived.Test.YtolboinemechpabLetS
import Derived.Test.YtolboinemechpabWordsPlain
import Derived.Test.YtolboinemechpabPerPlain
import Derived.Test.YtolboinemechpabPlacesPlain
import Derived.Deep.LoopGhost
namespace Go.Proofs.Ytolboinemechpab
set_option linter.unusedVariables false
set_option linter.unusedSimpArgs false
open Go.RowKit

theorem slice_0mS (x : ByteArray) (m : Nat) (hm : m ≤ x.size) (W : World) :
    (Instr.slice 9 (.string x) none (some (.int .i64 (m : Int))) none).run Try.prog W = .ok (.string (x.extract 0 m)) W := by
  have := run_slice_string_h (P := Try.prog) W 9 x Try.underlying9 .i64 (m : Int) (by omega) (by omega)
  simpa using this
theorem bt_takeS (l : List UInt8) (n : Nat) : (bt l).extract 0 n = bt (l.take n) := bl_inj (by
  rw [bl_extract]
  show (l.drop 0).take (n - 0) = l.take n
  rw [List.drop_zero, Nat.sub_zero])
theorem teq_not_nilS {x : ByteArray} (h : ¬ x.size = 0) : x.toList.isEmpty = false := by
  rw [ByteArray.toList_eq, Bool.eq_false_iff]
  intro e
  have := List.isEmpty_iff.1 e
  apply h
  have h2 := congrArg List.length this
  simpa using h2
/-- Among the letters behind the first one, as far as k, there is one that is not found. -/
def anK (l : List UInt8) (o : Nat → Bool) (k : Nat) : Bool := ((l.take k).drop 1).any fun c => !o (c.toNat - 97)
theorem anK_one (l : List UInt8) (o : Nat → Bool) : anK l o 1 = false := by
  unfold anK
  cases l with
  | nil => rfl
  | cons c l => rfl
theorem anK_succ {l : List UInt8} {k : Nat} (hk : 1 ≤ k) (h : k < l.length) (o : Nat → Bool) : anK l o (k + 1) = (anK l o k || !o ((l[k]'h).toNat - 97)) := by
  unfold anK
  rw [List.take_succ_eq_append_getElem h, List.drop_append_of_le_length (by rw [List.length_take]; omega), List.any_append]
  simp
theorem anK_all {a : UInt8} {u : List UInt8} {o : Nat → Bool} : anK (a :: u) o (a :: u).length = true ↔ ∃ c ∈ u, o (c.toNat - 97) = false := by
  unfold anK
  rw [List.take_length, List.drop_one, List.tail_cons, List.any_eq_true]
  simp

set_option maxRecDepth 100000 in
set_option maxHeartbeats 4000000 in
theorem l06Grown_any (B : Nat) (v : Value) (I : List (List UInt8)) (q n : Nat) (R : Bool) (w : World) (h : OwnS w B v (I.map bt)) (g : Mor I) (hq : q < I.length) (hn : n ≤ 60) (hR : R = true ↔ gw I q) :
    Calls Try.prog 89 #[.agg #[v], .int .i64 (q : Int), .int .i64 (n : Int)] w fun e w' => e = .returned (.tuple #[.string (if R = true then bt (grownW I (letr q) n) else ⟨#[]⟩), .bool R]) ∧ Below w.heap.size w w' := by
  have h1 := g.len1
  have h5 := g.len5
  have c1 := fun W h => l06Mortal_any B v I W h g
  have c2 := fun l (W : World) h (hl : lets I l) (h60 : l.length ≤ 60) => l06Image_any B v I l (bt l) W h g rfl hl h60
  obtain ⟨p, cap, rfl, hg, hc, cell⟩ := h.rowM (by omega)
  have BN : Below w.heap.size w (w.alloc (.cells #[.slice (some ⟨p, 0, none⟩) I.length cap] 53)) := Below.new _ _
  have QN : Boxed (w.alloc (.cells #[.slice (some ⟨p, 0, none⟩) I.length cap] 53)) w.heap.size 53 (.slice (some ⟨p, 0, none⟩) I.length cap) := Boxed.new _ _ _
  have hz12 : (bt (I[q]'hq)).size ≤ 12 := (g.im q hq).1
  have hq5 : q < 5 := by omega
  have hqc : q < cap := by omega
  have he := encode_letter q (by omega)
  have hlq : (lt1 q) = bt [letr q] := bl_inj rfl
  have hcv : ∀ W, (convert 21 9 (.int .i32 (97 + (q : Int)))).run Try.prog W = .ok (.string (lt1 q)) W := fun W => by
    rw [run_convert_int_string W _ _ _ _ (by rw [Try.underlying21]; rfl) Try.underlying9, he]
  have hgd : I[q]'hq = img I (letr q) := by rw [img_getD g hq]; simp [List.getD_eq_getElem?_getD, hq]
  have hqi : (q : Int) < (I.length : Int) := by omega
  have hq0 : (0 : Int) ≤ (q : Int) := by omega
  have hsz : (bt (I[q]'hq)).size = (I[q]'hq).length := bt_size _
  have HGD := Lib.hid hgd
  have HLQ := Lib.hid hlq
  clear hgd hlq
  obtain ⟨T, hT⟩ : ∃ T, (if R = true then bt (grownW I (letr q) n) else ⟨#[]⟩) = T := ⟨_, rfl⟩
  rw [hT]
  have HT := Lib.hid hT
  clear hT
  have G := Lib.hid g
  have C := Lib.hid cell
  have H := Lib.hid h
  have C1 := Lib.hid c1
  have C2 := Lib.hid c2
  have HBN := Lib.hid BN
  have HQN := Lib.hid QN
  have HR := Lib.hid hR
  clear h cell c1 c2 BN QN hR he g
  go_enter Try.func89, Try.ntmps89
  go_wp2_with fail
  refine (C1.out _ (H.out.below HBN.out)).mono ?_
  rintro e w1 ⟨M, o, rfl, ho, hmo, b1⟩
  have B1 := HBN.out.then b1
  have Q1 := boxed_later HQN.out b1
  have kq := Q1.cell
  have kc : w1.cell? ⟨p, q, none⟩ = some (.string (bt (I[q]'hq))) := by rw [(bcell B1).1 p q hg]; exact C.out q hq
  have HMO := Lib.hid hmo
  clear hmo
  have hfin : R = false → T = ⟨#[]⟩ := fun e => by rw [← HT.out, e]; rfl
  have HFN := Lib.hid hfin
  clear hfin
  by_cases hnil : (I[q]'hq).length = 0
  · have hno : ¬ gw I q := by
      rintro ⟨u, e, _⟩
      rw [← HGD.out] at e
      rw [e] at hnil
      cases hnil
    have HF : Hid (R = false) := Lib.hid (Bool.eq_false_iff.2 fun e => hno (HR.out.1 e))
    rw [List.eq_nil_of_length_eq_zero hnil, show bt [] = ⟨#[]⟩ from rfl] at kc
    go_wp2_with fail
    go_ret2
    rw [HFN.out HF.out, HF.out]
    exact ⟨rfl, B1⟩
  · have hz0 : ¬ (bt (I[q]'hq)).size = 0 := by omega
    have hne := teq_not_nilS hz0
    have hsl := fun W => slice_0mS (bt (I[q]'hq)) 1 (by omega) W
    rw [show ((1 : Nat) : Int) = 1 from rfl] at hsl
    by_cases hfi : (bt (I[q]'hq)).extract 0 1 = lt1 q
    · have hqy := teq_yes hfi
      have hu : ∃ u, img I (letr q) = letr q :: u := by
        rw [bt_takeS, HLQ.out] at hfi
        have h2 := congrArg lts hfi
        rw [lt_bt, lt_bt] at h2
        rw [← HGD.out]
        cases e : I[q]'hq with
        | nil => rw [e] at hnil; exact absurd rfl hnil
        | cons c l =>
          rw [e] at h2
          simp at h2
          exact ⟨l, by rw [h2]⟩
      obtain ⟨u, hu⟩ := hu
      have hIu : I[q]'hq = letr q :: u := HGD.out.trans hu
      have hgw := gw_iff G.out hq hu
      have hlet : ∀ k (hk : k < (I[q]'hq).length), ∃ n : Nat, n < I.length ∧ (((I[q]'hq)[k]'hk).toNat : Int) = (n : Int) + 97 ∧ ((I[q]'hq)[k]'hk).toNat - 97 = n := fun k hk => by
        obtain ⟨e1, e2⟩ := getD_letter G.out hq (c := (I[q]'hq)[k]'hk) (by rw [← img_getD G.out hq, ← HGD.out]; exact List.getElem_mem hk)
        have e3 : lets I (img I (letr q)) := by
          have := hk_lets G.out 1 (lets_one G.out hq)
          rwa [hk_succ, hk_zero, show imgOf I [letr q] = img I (letr q) from by unfold imgOf; simp] at this
        have e4 := (e3 ((I[q]'hq)[k]'hk) (by rw [← HGD.out]; exact List.getElem_mem hk)).1
        exact ⟨_, e2, by omega, rfl⟩
      have hgrow : anK (I[q]'hq) o (I[q]'hq).length = true ↔ gw I q := by
        rw [hgw, hIu, anK_all]
        constructor
        · rintro ⟨c, hc, e⟩
          refine ⟨c, hc, fun hm => ?_⟩
          have hl := (getD_letter G.out hq (c := c) (by rw [← img_getD G.out hq, hu]; exact List.mem_cons_of_mem _ hc)).2
          rw [(HMO.out _ hl).2 hm] at e
          cases e
        · rintro ⟨c, hc, e⟩
          refine ⟨c, hc, Bool.eq_false_iff.2 fun hm => e ?_⟩
          have hl := (getD_letter G.out hq (c := c) (by rw [← img_getD G.out hq, hu]; exact List.mem_cons_of_mem _ hc)).2
          exact (HMO.out _ hl).1 hm
      have hRa : R = anK (I[q]'hq) o (I[q]'hq).length := by
        rw [Bool.eq_iff_iff, HR.out, hgrow]
      have HRA := Lib.hid hRa
      have HLT := Lib.hid hlet
      have HU := Lib.hid hu
      have HYG : Hid (∀ k (hk : k < (bt (I[q]'hq)).size), (bt (I[q]'hq))[k]'hk = (I[q]'hq)[k]'(by rw [← hsz]; exact hk)) := Lib.hid fun k hk => rfl
      clear hgrow hRa hlet hu hgw hIu hfi
      generalize (bt (I[q]'hq)).extract 0 1 = f1 at *
      go_wp2_with fail
      go_loopw [9, 11] (fun s9 s11 wr => w1 = wr ∧ ∃ k : Nat, 1 ≤ k ∧ k ≤ (I[q]'hq).length ∧ s11 = .int .i64 (k : Int) ∧ s9 = .bool (anK (I[q]'hq) o k)) (fun _ s11 _ => 13 - (intOf s11).toNat)
      case atStart => exact ⟨rfl, 1, Nat.le_refl _, by omega, rfl, by rw [anK_one]⟩
      case round =>
        obtain ⟨rfl, k, hk1, hkl, rfl, rfl⟩ := hrel
        by_cases hpk : k < (I[q]'hq).length
        · obtain ⟨n1, hn1, e1, e2⟩ := HLT.out k hpk
          have hks : k < (bt (I[q]'hq)).size := by omega
          have hms := anK_succ hk1 hpk o
          rw [e2] at hms
          rw [← HYG.out k hks] at e1
          have hki : (k : Int) < ((bt (I[q]'hq)).size : Int) := by omega
          have hk0 : (0 : Int) ≤ (k : Int) := by omega
          have co := ho.at hn1
          have hni : (n1 : Int) < (I.length : Int) := by omega
          have hn0 : (0 : Int) ≤ (n1 : Int) := by omega
          have HMS := Lib.hid hms
          clear hms e2
          generalize bt (I[q]'hq) = z at *
          cases hm : anK (I[q]'hq) o k with
          | true =>
            have HMM := Lib.hid hm
            clear hm
            go_wp2_with fail
            exact ⟨⟨trivial, k + 1, by omega, by omega, by go_num, by rw [HMS.out, HMM.out]; rfl⟩, by simp [intOf]; omega⟩
          | false =>
            have HMM := Lib.hid hm
            clear hm
            go_wp2_with fail
            exact ⟨⟨trivial, k + 1, by omega, by omega, by go_num, by rw [HMS.out, HMM.out, Bool.false_or]⟩, by simp [intOf]; omega⟩
        · obtain rfl : k = (I[q]'hq).length := by omega
          have hki : ¬ ((I[q]'hq).length : Int) < ((bt (I[q]'hq)).size : Int) := by omega
          rw [← HRA.out]
          clear HYG HLT
          cases hRR : R with
          | false =>
            have HF := Lib.hid (HFN.out hRR)
            have HRF := Lib.hid hRR
            clear hRR
            go_wp2_with fail
            go_ret2
            rw [HF.out, HRF.out]
            exact ⟨rfl, B1⟩
          | true =>
            have hgr := HR.out.1 hRR
            have HTT : Hid (T = bt (grownW I (letr q) n)) := Lib.hid (by rw [← HT.out, hRR]; rfl)
            have hgs : ∀ k, hk I k u ≠ [] := by
              obtain ⟨u2, e1, e2⟩ := hgr
              have e3 := HU.out
              rw [e3] at e1
              cases e1
              have hln := letr_nat (show q < 5 by omega)
              exact growsS_all ((grows_iff G.out (by rw [hln]; omega) (by rw [hln]; omega) e3).1 e2)
            have HGS := Lib.hid fun k => hk_longer HU.out hgs k
            have HDN := Lib.hid fun k (e : n ≤ (hk I k [letr q]).length) => grown_of HU.out hgs e
            have HLL := Lib.hid fun k => hk_lets G.out k (lets_one G.out hq)
            have HRF := Lib.hid hRR
            clear hRR hgr hgs
            rw [HLQ.out]
            go_wp2_with fail
            go_loopg [8] 61 (fun gg s8 wr => ∃ k : Nat, k + gg = 61 ∧ s8 = .string (bt (hk I k [letr q])) ∧ Below w1.heap.size w1 wr)
            case atStart => exact ⟨0, rfl, by rw [hk_zero], Below.refl _ _⟩
            case round =>
              obtain ⟨k, hkg, rfl, hB⟩ := hrel
              have hln := HGS.out k
              have hys : (bt (hk I k [letr q])).size = (hk I k [letr q]).length := bt_size _
              by_cases hlt : (hk I k [letr q]).length < n
              · have hli : ((bt (hk I k [letr q])).size : Int) < (n : Int) := by omega
                have kq := (boxed_later Q1 (show Below w1.heap.size w1 wr from hB)).cell
                have CI := Lib.hid (C2.out (hk I k [letr q]) wr (H.out.below (B1.then hB)) (HLL.out k) (by omega))
                rw [← hk_succ] at CI
                go_wp2_with fail
                refine CI.out.mono ?_
                rintro e w5 ⟨rfl, b5⟩
                go_wp2_with fail
                go_roundg (gk - 1)
                case measure => omega
                case rel => exact ⟨k + 1, by omega, rfl, hB.then b5⟩
              · have hli : ¬ ((bt (hk I k [letr q])).size : Int) < (n : Int) := by omega
                have hs2 := fun W => slice_0mS (bt (hk I k [letr q])) n (by omega) W
                rw [bt_takeS, HDN.out k (by omega), ← HTT.out] at hs2
                clear hys
                generalize bt (hk I k [letr q]) = y at *
                go_wp2_with fail
                go_ret2
                rw [HRF.out]
                exact ⟨rfl, B1.then hB⟩
    · have hqn := teq_no hfi
      have hno : ¬ gw I q := by
        rintro ⟨u, e, _⟩
        apply hfi
        rw [bt_takeS, HLQ.out, HGD.out, e]
        rfl
      have HF : Hid (R = false) := Lib.hid (Bool.eq_false_iff.2 fun e => hno (HR.out.1 e))
      clear hfi hno
      generalize (bt (I[q]'hq)).extract 0 1 = f1 at *
      go_wp2_with fail
      go_ret2
      rw [HFN.out HF.out, HF.out]
      exact ⟨rfl, B1⟩

set_option maxRecDepth 100000 in
set_option maxHeartbeats 2000000 in
theorem spec_GrownWord (B : Nat) (v : Value) (I : List (List UInt8)) (q n : Int) (w : World) (h : OwnS w B v (I.map bt)) (t : Tot I) (wq : (Lit.int .i64 q).wf = true) (wn : (Lit.int .i64 n).wf = true) :
    Calls Try.prog 37 #[.agg #[v], .int .i64 q, .int .i64 n] w fun e w' => e = .returned (.tuple #[.string (growR I q n).1, .int .i64 (growR I q n).2]) ∧ Below w.heap.size w w' := by
  have c1 := fun W h => l06Letter_any B v I q W h t wq
  obtain ⟨p, c, hv⟩ := ownS_value h
  rw [List.length_map] at hv
  subst hv
  have BN : Below w.heap.size w (w.alloc (.cells #[.slice p I.length c] 53)) := Below.new _ _
  have QN : Boxed (w.alloc (.cells #[.slice p I.length c] 53)) w.heap.size 53 (.slice p I.length c) := Boxed.new _ _ _
  have HBN := Lib.hid BN
  have HQN := Lib.hid QN
  have H := Lib.hid h
  by_cases g : Mor I
  · by_cases hb : 0 ≤ q ∧ q < (I.length : Int)
    · rw [show letC I q = 0 from by unfold letC; rw [if_neg (not_not_intro g), if_neg (by omega)]] at c1
      have C1 := Lib.hid c1
      by_cases hn : 0 ≤ n ∧ n ≤ 60
      · obtain ⟨qn, rfl⟩ : ∃ qn : Nat, q = (qn : Int) := ⟨q.toNat, by omega⟩
        obtain ⟨k, rfl⟩ : ∃ k : Nat, n = (k : Int) := ⟨n.toNat, by omega⟩
        have C2 := Lib.hid fun W => l01In_yesM (k : Int) 0 60 W hn.1 hn.2
        by_cases hgw : gw I qn
        · rw [growR_yes g (by omega) (by omega) hgw]
          have C3 := Lib.hid fun W h => l06Grown_any B (.slice p I.length c) I qn k true W h g (by omega) (by omega) ⟨fun _ => hgw, fun _ => rfl⟩
          clear h t g hgw c1 BN QN hb hn
          go_enter Try.func37, Try.ntmps37
          go_wp2_with fail
          refine (C1.out _ (H.out.below HBN.out)).mono ?_
          rintro e w1 ⟨rfl, b1⟩
          have q1 := boxed_later HQN.out b1
          have kq := q1.cell
          have B1 := HBN.out.then b1
          go_wp2_with fail
          refine (C2.out _).mono ?_
          rintro e w2 ⟨rfl, rfl⟩
          go_wp2_with fail
          refine (C3.out _ (H.out.below B1)).mono ?_
          rintro e w3 ⟨rfl, b3⟩
          go_wp2_with fail
          go_ret2
          exact ⟨rfl, B1.then b3⟩
        · rw [growR_no g (by omega) (by omega) hgw]
          have C3 := Lib.hid fun W h => l06Grown_any B (.slice p I.length c) I qn k false W h g (by omega) (by omega) ⟨fun e => (by cases e), fun e => absurd e hgw⟩
          clear h t g hgw c1 BN QN hb hn
          go_enter Try.func37, Try.ntmps37
          go_wp2_with fail
          refine (C1.out _ (H.out.below HBN.out)).mono ?_
          rintro e w1 ⟨rfl, b1⟩
          have q1 := boxed_later HQN.out b1
          have kq := q1.cell
          have B1 := HBN.out.then b1
          go_wp2_with fail
          refine (C2.out _).mono ?_
          rintro e w2 ⟨rfl, rfl⟩
          go_wp2_with fail
          refine (C3.out _ (H.out.below B1)).mono ?_
          rintro e w3 ⟨rfl, b3⟩
          go_wp2_with fail
          go_ret2
          exact ⟨rfl, B1.then b3⟩
      · rw [growR_out g (by omega)]
        have C2 := Lib.hid fun W => l01In_noM n 0 60 W hn
        clear h t g c1 BN QN hb hn
        go_enter Try.func37, Try.ntmps37
        go_wp2_with fail
        refine (C1.out _ (H.out.below HBN.out)).mono ?_
        rintro e w1 ⟨rfl, b1⟩
        have B1 := HBN.out.then b1
        go_wp2_with fail
        refine (C2.out _).mono ?_
        rintro e w2 ⟨rfl, rfl⟩
        go_wp2_with fail
        go_ret2
        exact ⟨rfl, B1⟩
    · rw [growR_out g (by omega)]
      rw [show letC I q = 2 from by unfold letC; rw [if_neg (not_not_intro g), if_pos (by omega)]] at c1
      have C1 := Lib.hid c1
      clear h t g c1 BN QN hb
      go_enter Try.func37, Try.ntmps37
      go_wp2_with fail
      refine (C1.out _ (H.out.below HBN.out)).mono ?_
      rintro e w1 ⟨rfl, b1⟩
      have B1 := HBN.out.then b1
      go_wp2_with fail
      go_ret2
      exact ⟨rfl, B1⟩
  · rw [growR_bad g]
    rw [show letC I q = 1 from by unfold letC; rw [if_pos g]] at c1
    have C1 := Lib.hid c1
    clear h t g c1 BN QN
    go_enter Try.func37, Try.ntmps37
    go_wp2_with fail
    refine (C1.out _ (H.out.below HBN.out)).mono ?_
    rintro e w1 ⟨rfl, b1⟩
    have B1 := HBN.out.then b1
    go_wp2_with fail
    go_ret2
    exact ⟨rfl, B1⟩

end Go.Proofs.Ytolboinemechpab
