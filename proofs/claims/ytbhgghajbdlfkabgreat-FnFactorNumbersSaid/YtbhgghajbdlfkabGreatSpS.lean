/- Special factors: the model. -/
import Derived.Test.YtbhgghajbdlfkabGreatSpPlain
import Derived.Test.YtbhgghajbdlfkabGreatFactorsS
import Derived.Test.YtbhgghajbdlfkabGreatNum5
import Derived.Test.YtbhgghajbdlfkabGreatPers
import Derived.Test.YtbhgghajbdlfkabGreatPut
import Derived.Test.YtbhgghajbdlfkabGreatAntiPlain
import Derived.Deep.LoopGhost
import Derived.Deep.QuietTactic
import Derived.BigQuiet
namespace Go.Proofs.YtbhgghajbdlfkabGreat
set_option linter.unusedVariables false
set_option linter.unusedSimpArgs false
open Go.RowKit

/-- The words put so far, while the i-th is looked at. -/
def dupC (O : List ByteArray) (i k : Nat) : List ByteArray := if dupB O i k = true then insW (dupA O i) (O.getD i ByteArray.empty) else dupA O i
theorem dupC_zero (O : List ByteArray) (i : Nat) : dupC O i 0 = dupA O i := by unfold dupC dupB; simp
theorem dupC_end (O : List ByteArray) (i : Nat) : dupC O i i = dupA O (i + 1) := rfl
theorem dupC_asc (O : List ByteArray) (i k : Nat) : Asc (dupC O i k) := by unfold dupC; split; exact asc_insW _ _ (dupA_asc O i); exact dupA_asc O i
theorem dupC_len (O : List ByteArray) (i k : Nat) : (dupC O i k).length ≤ i + 1 := by
  have h := dupA_len O i
  have h2 := insW_len (dupA O i) (O.getD i ByteArray.empty)
  unfold dupC; split <;> omega
theorem dupC_hit (O : List ByteArray) (i k : Nat) (h : O.getD k ByteArray.empty = O.getD i ByteArray.empty) : dupC O i (k + 1) = insW (dupC O i k) (O.getD i ByteArray.empty) := by
  unfold dupC
  rw [dupB_succ, decide_eq_true h, Bool.or_true, if_pos rfl]
  split
  · rw [insW_mem _ _ (asc_insW _ _ (dupA_asc O i)) ((mem_insW _ _ _).2 (.inl rfl))]
  · rfl
theorem dupC_miss (O : List ByteArray) (i k : Nat) (h : ¬ O.getD k ByteArray.empty = O.getD i ByteArray.empty) : dupC O i (k + 1) = dupC O i k := by
  unfold dupC
  rw [dupB_succ, decide_eq_false h, Bool.or_false]
theorem ownL_len (x : ByteArray) (m : Nat) (r : Bool) : (ownL x m r).length = (facs x (m + 1)).length := List.length_map _
theorem facs_sizeS {x : ByteArray} {m : Nat} : ∀ z ∈ facs x m, z.size = m := by
  intro z hz
  obtain ⟨i, hi, rfl⟩ := mem_facs.1 hz
  simp
  omega
theorem ownB_size (r : Bool) (m : Nat) (f : ByteArray) (h : f.size = m + 1) : (ownB r m f).size = m := by
  unfold ownB; split <;> simp <;> omega
theorem ownL_size (x : ByteArray) (m : Nat) (r : Bool) : ∀ z ∈ ownL x m r, z.size = m := by
  intro z hz
  unfold ownL at hz
  obtain ⟨f, hf, rfl⟩ := List.mem_map.1 hz
  exact ownB_size r m f (facs_sizeS f hf)

set_option maxRecDepth 100000 in
set_option maxHeartbeats 4000000 in
theorem l05SpecialR_any (x : ByteArray) (m : Nat) (w : World) (hx : x.size ≤ 60) (hm : m ≤ 60) :
    Calls Tryz.prog 75 #[.string x, .int .i64 (m : Int), .bool true] w fun e w' => ∃ v, e = .returned v ∧ OwnS w' w.heap.size v (dupA (ownL x m true) (facs x (m + 1)).length) ∧ Below w.heap.size w w' := by
  obtain ⟨i0, hi0, hz0, hz1, hz2⟩ := info_parts infoStr
  have hmo : Tryz.prog.follows .mixedOrders = true := by kernel_rfl
  have HF : Hid (∀ w, Calls Tryz.prog 78 #[.string x, .int .i64 ((m : Int) + 1)] w fun e w' => ∃ v, e = .returned v ∧ OwnS w' w.heap.size v (facs x (m + 1)) ∧ Below w.heap.size w w') := Lib.hid fun w => by
    have := l01Factors_61 x (m + 1) w hx (by omega)
    rw [show ((m + 1 : Nat) : Int) = (m : Int) + 1 by omega] at this
    exact this
  have hFl : (facs x (m + 1)).length ≤ 61 := by have := facs_len x (m + 1); omega
  have HFS := Lib.hid (facs_sizeS (x := x) (m := m + 1))
  have HOS := Lib.hid (ownL_size x m true)
  have HOL := Lib.hid (ownL_len x m true)
  have HOG := Lib.hid fun i h => ownL_get x m true i h
  have HOT : Hid (∀ k (h : k < (facs x (m + 1)).length), (ownL x m true).take (k + 1) = (ownL x m true).take k ++ [ownB true m ((facs x (m + 1))[k]'h)]) := Lib.hid fun k h => by
    unfold ownL
    rw [← List.map_take, ← List.map_take, List.take_succ_eq_append_getElem h, List.map_append]
    rfl
  rw [← HOL.out]
  generalize ownL x m true = O at *
  generalize facs x (m + 1) = FF at *
  go_enter Tryz.func75, Tryz.ntmps75
  go_wp2_with fail
  refine (HF.out _).mono ?_
  rintro e w1 ⟨v1, rfl, o1, b1⟩
  obtain ⟨a1, c1, rfl, k1⟩ := OwnS.look5 o1
  have K1 := Lib.hid k1
  have hb1 := b1.size
  have HB1 := Lib.hid b1
  clear o1 k1 b1
  go_wp2
  go_loopg [9, 10] FF.length (fun gk v i wr => ∃ k : Nat, k + gk = FF.length ∧ i = .int .i64 (k : Int) ∧ wr.ownsRow (w1.heap.size + 1) 9 1 v k ((O.take k).map Value.string) ∧ OwnS wr w1.heap.size (.slice (some ⟨w1.heap.size, 0, none⟩) 0 0) [] ∧ Below w1.heap.size w1 wr)
  case atStart =>
    refine ⟨0, by omega, rfl, ?_, OwnS.below (own_base (World.ownsRow_lit w1 #[] 0 (Nat.le_refl _) (by decide) (by simp)) (Nat.le_refl _)) (Below.new _ _), (Below.new _ _).alloc (by simp) _⟩
    have := World.ownsRow_lit (w1.alloc (.cells #[] 9)) #[] 0 (Nat.le_refl _) (by decide) (by simp) (e := 9) (size := 1)
    rw [World.size_alloc] at this
    exact this
  case round =>
    obtain ⟨k, hk, rfl, hown, hout, hB⟩ := hrel
    have hbz := hB.size
    by_cases hp : k < FF.length
    · obtain ⟨gq, rfl⟩ : ∃ gq, gk = gq + 1 := ⟨gk - 1, by omega⟩
      have HK := Lib.hid hk
      obtain ⟨g1, rfl, hg1, hc1, h10⟩ := K1.out k hp
      have cE := ((bcell hB).1 g1 k hg1).trans h10
      have hz := HFS.out _ (List.getElem_mem hp)
      have HT := Lib.hid (HOT.out k hp)
      have hpi : (k : Int) < (FF.length : Int) := by omega
      clear hk h10
      generalize FF[k]'hp = z at *
      have hs1 := fun W => slice_to z (m : Int) m rfl (by omega) W
      have HY : Hid (ownB true m z = z.extract 0 m) := Lib.hid (by unfold ownB; rfl)
      have hys : (z.extract 0 m).size = m := by simp; omega
      clear hz
      generalize z.extract 0 m = y at *
      have hlt0 : w1.heap.size < wr.heap.size := (OwnS.lt hout w1.heap.size rfl).2
      go_wp2_with (at_builtin; refine wpList_append_own _ rfl _ _ 26 rfl (w1.heap.size + 1) 9 i0 (.string ⟨#[]⟩) 1 16 Tryz.underlying26 hi0 hz0 hz1 hz2 rfl (by decide) _ _ _ rfl (hown.alloc _) ⟨_, 0, none⟩ 1 1 [.string y] rfl rfl (cell_new _ _ _) (by intro u hu; simp at hu; subst hu; rfl) (by unfold maxLen; omega) (by omega) (by simp; omega) ?_; intro v' w3 hown' hgrow _)
      have hout3 : OwnS w3 w1.heap.size (.slice (some ⟨w1.heap.size, 0, none⟩) 0 0) [] := own_other5 (OwnS.below hout (Below.new wr _)) hgrow (fun q e1 e2 => by have h1 := (hown.lt q e2).1; have h2 : w1.heap.size = q := Option.some.inj e1; omega)
      have hB3 : Below w1.heap.size w1 w3 := (hB.alloc hbz _).grown hgrow (by simp; omega) (fun q hq => by have := (hown.lt q hq).1; omega)
      go_roundg gq
      case measure => omega
      case rel =>
        refine ⟨k + 1, by have := HK.out; omega, by go_num, ?_, hout3, hB3⟩
        rw [HT.out, List.map_append, List.map_cons, List.map_nil, HY.out]
        exact hown'
    · obtain rfl : gk = 0 := by omega
      obtain rfl : k = FF.length := by omega
      have hOn : O.length ≤ 61 := by rw [HOL.out]; exact hFl
      have hOall : (O.take FF.length) = O := List.take_of_length_le (by rw [HOL.out]; exact Nat.le_refl _)
      rw [hOall] at hown
      obtain ⟨wo, rfl⟩ : ∃ wo : World, wo = wr := ⟨_, rfl⟩
      have hownO : OwnS wo (w1.heap.size + 1) u9 O := by unfold OwnS; rw [HOL.out]; exact hown
      obtain ⟨aO, cO, rfl, kO⟩ := OwnS.look5 hownO
      have KO := Lib.hid kO
      have HBR := Lib.hid hB
      have HOO := Lib.hid HOL.out
      have hpi : ¬ ((FF.length : Int) < (FF.length : Int)) := by omega
      have hwz : w1.heap.size ≤ wo.heap.size := hB.size
      clear hown hownO kO hOall hk hp HOT HOG
      go_wp2
      go_loopg [8, 11] O.length (fun gk v i wq => ∃ i' ga ca : Nat, i' + gk = O.length ∧ i = .int .i64 (i' : Int) ∧ v = .slice (some ⟨ga, 0, none⟩) (dupC O i' 0).length ca ∧ OwnS wq w1.heap.size (.slice (some ⟨ga, 0, none⟩) (dupC O i' 0).length ca) (dupC O i' 0) ∧ Below wo.heap.size wo wq ∧ Below w1.heap.size w1 wq)
      case atStart => exact ⟨0, w1.heap.size, 0, by omega, rfl, rfl, hout, Below.refl _ _, HBR.out⟩
      case round =>
        clear hout hB
        obtain ⟨i, ga, ca, hi, rfl, rfl, hown, hB, hBw⟩ := hrel
        by_cases hp : i < O.length
        · obtain ⟨gq, rfl⟩ : ∃ gq, gk = gq + 1 := ⟨gk - 1, by omega⟩
          have HI := Lib.hid hi
          have hpi : (i : Int) < (O.length : Int) := by omega
          clear hi
          have hli : i ≤ 61 := by omega
          obtain ⟨gO, rfl, hgO, hcO, hO0⟩ := KO.out i hp
          have HCI := Lib.hid hO0
          go_wp2
          go_loopg [8, 12] i (fun g2 v j wq => ∃ k ga ca : Nat, k + g2 = i ∧ j = .int .i64 (k : Int) ∧ v = .slice (some ⟨ga, 0, none⟩) (dupC O i k).length ca ∧ OwnS wq w1.heap.size (.slice (some ⟨ga, 0, none⟩) (dupC O i k).length ca) (dupC O i k) ∧ Below wo.heap.size wo wq ∧ Below w1.heap.size w1 wq)
          case atStart => exact ⟨0, ga, ca, by omega, rfl, rfl, hown, hB, hBw⟩
          case round =>
            clear hown hB hBw
            obtain ⟨k, ga, ca, hk, rfl, rfl, hown, hB, hBw⟩ := hrel
            by_cases hp2 : k < i
            · obtain ⟨gr, rfl⟩ : ∃ gr, gk = gr + 1 := ⟨gk - 1, by omega⟩
              have HK := Lib.hid hk
              have hko : k < O.length := by omega
              obtain ⟨gO2, e2, _, _, hk0⟩ := KO.out k hko
              obtain rfl : gO2 = gO := by have := Option.some.inj e2; simpa using this.symm
              have ci := ((bcell hB).1 gO2 i hgO).trans HCI.out
              have ck := ((bcell hB).1 gO2 k hgO).trans hk0
              have gi := getD_lt5 hp
              have gk5 := getD_lt5 hko
              have HC := Lib.hid (fun h => dupC_hit O i k h)
              have HM := Lib.hid (fun h => dupC_miss O i k h)
              rw [gi, gk5] at HC HM
              have hasc := dupC_asc O i k
              have hln := dupC_len O i k
              have hzi := HOS.out _ (List.getElem_mem hp)
              have hbz := hBw.size
              clear hk hk0 gi gk5 e2
              generalize O[i]'hp = zi at *
              generalize O[k]'hko = zk at *
              generalize dupC O i k = A at *
              have hpj : (k : Int) < (i : Int) := by omega
              have hkc : k < cO := by omega
              by_cases he : zk = zi
              · have ht := teq_yes he
                have HC2 := Lib.hid (HC.out he)
                have HPut := Lib.hid (fun n => l01Put_any w1.heap.size ga ca A zi (wr.drewN n) hown hbz hasc (by omega) (by omega))
                clear he hown hasc
                go_wp2
                go_quiet (fail)
                have ci2 : (wr.drewN nq).cell? ⟨gO2, i, none⟩ = some (.string zi) := ci
                have hB2 : Below wo.heap.size wo (wr.drewN nq) := hB.drewN nq
                have hBw2 : Below w1.heap.size w1 (wr.drewN nq) := hBw.drewN nq
                have HP2 := Lib.hid (HPut.out nq)
                clear ci ck HPut hB hBw
                generalize wr.drewN nq = wn at *
                go_wp2_with (go_at_call 107; refine HP2.out.mono ?_; rintro e w3 ⟨g3, c3, rfl, hown3, b3⟩)
                have hB3 := hB2.then b3
                have hBw3 := hBw2.then b3
                go_roundg gr
                case measure => omega
                case rel => exact ⟨k + 1, g3, c3, by have := HK.out; omega, by go_num, by rw [HC2.out], by rw [HC2.out]; exact hown3, hB3, hBw3⟩
              · have ht := teq_no he
                have HM2 := Lib.hid (HM.out he)
                clear he
                go_wp2
                go_quiet (fail)
                go_wp2
                go_roundg gr
                case measure => omega
                case rel => exact ⟨k + 1, ga, ca, by have := HK.out; omega, by go_num, by rw [HM2.out], by rw [HM2.out]; exact hown, hB.drewN _, hBw.drewN _⟩
            · obtain rfl : gk = 0 := by omega
              obtain rfl : k = i := by omega
              have HE := Lib.hid (dupC_end O k)
              have HZ := Lib.hid (dupC_zero O (k + 1))
              have hpj : ¬ ((k : Int) < (k : Int)) := by omega
              clear hk
              go_wp2
              go_roundg gq
              case measure => omega
              case rel => exact ⟨k + 1, ga, ca, by have := HI.out; omega, by go_num, by rw [HZ.out, ← HE.out], by rw [HZ.out, ← HE.out]; exact hown, hB, hBw⟩
        · obtain rfl : gk = 0 := by omega
          obtain rfl : i = O.length := by omega
          rw [dupC_zero] at hown ⊢
          have HO := Lib.hid hown
          have hpi : ¬ ((O.length : Int) < (O.length : Int)) := by omega
          clear hown hi
          go_wp2
          go_ret
          exact ⟨_, rfl, OwnS.base HO.out hb1, HB1.out.then hBw⟩

set_option maxRecDepth 100000 in
set_option maxHeartbeats 4000000 in
theorem l05SpecialL_any (x : ByteArray) (m : Nat) (w : World) (hx : x.size ≤ 60) (hm : m ≤ 60) :
    Calls Tryz.prog 75 #[.string x, .int .i64 (m : Int), .bool false] w fun e w' => ∃ v, e = .returned v ∧ OwnS w' w.heap.size v (dupA (ownL x m false) (facs x (m + 1)).length) ∧ Below w.heap.size w w' := by
  obtain ⟨i0, hi0, hz0, hz1, hz2⟩ := info_parts infoStr
  have hmo : Tryz.prog.follows .mixedOrders = true := by kernel_rfl
  have HF : Hid (∀ w, Calls Tryz.prog 78 #[.string x, .int .i64 ((m : Int) + 1)] w fun e w' => ∃ v, e = .returned v ∧ OwnS w' w.heap.size v (facs x (m + 1)) ∧ Below w.heap.size w w') := Lib.hid fun w => by
    have := l01Factors_61 x (m + 1) w hx (by omega)
    rw [show ((m + 1 : Nat) : Int) = (m : Int) + 1 by omega] at this
    exact this
  have hFl : (facs x (m + 1)).length ≤ 61 := by have := facs_len x (m + 1); omega
  have HFS := Lib.hid (facs_sizeS (x := x) (m := m + 1))
  have HOS := Lib.hid (ownL_size x m false)
  have HOL := Lib.hid (ownL_len x m false)
  have HOG := Lib.hid fun i h => ownL_get x m false i h
  have HOT : Hid (∀ k (h : k < (facs x (m + 1)).length), (ownL x m false).take (k + 1) = (ownL x m false).take k ++ [ownB false m ((facs x (m + 1))[k]'h)]) := Lib.hid fun k h => by
    unfold ownL
    rw [← List.map_take, ← List.map_take, List.take_succ_eq_append_getElem h, List.map_append]
    rfl
  rw [← HOL.out]
  generalize ownL x m false = O at *
  generalize facs x (m + 1) = FF at *
  go_enter Tryz.func75, Tryz.ntmps75
  go_wp2_with fail
  refine (HF.out _).mono ?_
  rintro e w1 ⟨v1, rfl, o1, b1⟩
  obtain ⟨a1, c1, rfl, k1⟩ := OwnS.look5 o1
  have K1 := Lib.hid k1
  have hb1 := b1.size
  have HB1 := Lib.hid b1
  clear o1 k1 b1
  go_wp2
  go_loopg [9, 10] FF.length (fun gk v i wr => ∃ k : Nat, k + gk = FF.length ∧ i = .int .i64 (k : Int) ∧ wr.ownsRow (w1.heap.size + 1) 9 1 v k ((O.take k).map Value.string) ∧ OwnS wr w1.heap.size (.slice (some ⟨w1.heap.size, 0, none⟩) 0 0) [] ∧ Below w1.heap.size w1 wr)
  case atStart =>
    refine ⟨0, by omega, rfl, ?_, OwnS.below (own_base (World.ownsRow_lit w1 #[] 0 (Nat.le_refl _) (by decide) (by simp)) (Nat.le_refl _)) (Below.new _ _), (Below.new _ _).alloc (by simp) _⟩
    have := World.ownsRow_lit (w1.alloc (.cells #[] 9)) #[] 0 (Nat.le_refl _) (by decide) (by simp) (e := 9) (size := 1)
    rw [World.size_alloc] at this
    exact this
  case round =>
    obtain ⟨k, hk, rfl, hown, hout, hB⟩ := hrel
    have hbz := hB.size
    by_cases hp : k < FF.length
    · obtain ⟨gq, rfl⟩ : ∃ gq, gk = gq + 1 := ⟨gk - 1, by omega⟩
      have HK := Lib.hid hk
      obtain ⟨g1, rfl, hg1, hc1, h10⟩ := K1.out k hp
      have cE := ((bcell hB).1 g1 k hg1).trans h10
      have hz := HFS.out _ (List.getElem_mem hp)
      have HT := Lib.hid (HOT.out k hp)
      have hpi : (k : Int) < (FF.length : Int) := by omega
      clear hk h10
      generalize FF[k]'hp = z at *
      have hs1 := fun W => slice_from z 1 1 rfl (by omega) W
      have HY : Hid (ownB false m z = z.extract 1 z.size) := Lib.hid (by unfold ownB; rw [← hz]; rfl)
      have hys : (z.extract 1 z.size).size = m := by simp; omega
      clear hz
      generalize z.extract 1 z.size = y at *
      have hlt0 : w1.heap.size < wr.heap.size := (OwnS.lt hout w1.heap.size rfl).2
      go_wp2_with (at_builtin; refine wpList_append_own _ rfl _ _ 26 rfl (w1.heap.size + 1) 9 i0 (.string ⟨#[]⟩) 1 16 Tryz.underlying26 hi0 hz0 hz1 hz2 rfl (by decide) _ _ _ rfl (hown.alloc _) ⟨_, 0, none⟩ 1 1 [.string y] rfl rfl (cell_new _ _ _) (by intro u hu; simp at hu; subst hu; rfl) (by unfold maxLen; omega) (by omega) (by simp; omega) ?_; intro v' w3 hown' hgrow _)
      have hout3 : OwnS w3 w1.heap.size (.slice (some ⟨w1.heap.size, 0, none⟩) 0 0) [] := own_other5 (OwnS.below hout (Below.new wr _)) hgrow (fun q e1 e2 => by have h1 := (hown.lt q e2).1; have h2 : w1.heap.size = q := Option.some.inj e1; omega)
      have hB3 : Below w1.heap.size w1 w3 := (hB.alloc hbz _).grown hgrow (by simp; omega) (fun q hq => by have := (hown.lt q hq).1; omega)
      go_roundg gq
      case measure => omega
      case rel =>
        refine ⟨k + 1, by have := HK.out; omega, by go_num, ?_, hout3, hB3⟩
        rw [HT.out, List.map_append, List.map_cons, List.map_nil, HY.out]
        exact hown'
    · obtain rfl : gk = 0 := by omega
      obtain rfl : k = FF.length := by omega
      have hOn : O.length ≤ 61 := by rw [HOL.out]; exact hFl
      have hOall : (O.take FF.length) = O := List.take_of_length_le (by rw [HOL.out]; exact Nat.le_refl _)
      rw [hOall] at hown
      obtain ⟨wo, rfl⟩ : ∃ wo : World, wo = wr := ⟨_, rfl⟩
      have hownO : OwnS wo (w1.heap.size + 1) u9 O := by unfold OwnS; rw [HOL.out]; exact hown
      obtain ⟨aO, cO, rfl, kO⟩ := OwnS.look5 hownO
      have KO := Lib.hid kO
      have HBR := Lib.hid hB
      have HOO := Lib.hid HOL.out
      have hpi : ¬ ((FF.length : Int) < (FF.length : Int)) := by omega
      have hwz : w1.heap.size ≤ wo.heap.size := hB.size
      clear hown hownO kO hOall hk hp HOT HOG
      go_wp2
      go_loopg [8, 11] O.length (fun gk v i wq => ∃ i' ga ca : Nat, i' + gk = O.length ∧ i = .int .i64 (i' : Int) ∧ v = .slice (some ⟨ga, 0, none⟩) (dupC O i' 0).length ca ∧ OwnS wq w1.heap.size (.slice (some ⟨ga, 0, none⟩) (dupC O i' 0).length ca) (dupC O i' 0) ∧ Below wo.heap.size wo wq ∧ Below w1.heap.size w1 wq)
      case atStart => exact ⟨0, w1.heap.size, 0, by omega, rfl, rfl, hout, Below.refl _ _, HBR.out⟩
      case round =>
        clear hout hB
        obtain ⟨i, ga, ca, hi, rfl, rfl, hown, hB, hBw⟩ := hrel
        by_cases hp : i < O.length
        · obtain ⟨gq, rfl⟩ : ∃ gq, gk = gq + 1 := ⟨gk - 1, by omega⟩
          have HI := Lib.hid hi
          have hpi : (i : Int) < (O.length : Int) := by omega
          clear hi
          have hli : i ≤ 61 := by omega
          obtain ⟨gO, rfl, hgO, hcO, hO0⟩ := KO.out i hp
          have HCI := Lib.hid hO0
          go_wp2
          go_loopg [8, 12] i (fun g2 v j wq => ∃ k ga ca : Nat, k + g2 = i ∧ j = .int .i64 (k : Int) ∧ v = .slice (some ⟨ga, 0, none⟩) (dupC O i k).length ca ∧ OwnS wq w1.heap.size (.slice (some ⟨ga, 0, none⟩) (dupC O i k).length ca) (dupC O i k) ∧ Below wo.heap.size wo wq ∧ Below w1.heap.size w1 wq)
          case atStart => exact ⟨0, ga, ca, by omega, rfl, rfl, hown, hB, hBw⟩
          case round =>
            clear hown hB hBw
            obtain ⟨k, ga, ca, hk, rfl, rfl, hown, hB, hBw⟩ := hrel
            by_cases hp2 : k < i
            · obtain ⟨gr, rfl⟩ : ∃ gr, gk = gr + 1 := ⟨gk - 1, by omega⟩
              have HK := Lib.hid hk
              have hko : k < O.length := by omega
              obtain ⟨gO2, e2, _, _, hk0⟩ := KO.out k hko
              obtain rfl : gO2 = gO := by have := Option.some.inj e2; simpa using this.symm
              have ci := ((bcell hB).1 gO2 i hgO).trans HCI.out
              have ck := ((bcell hB).1 gO2 k hgO).trans hk0
              have gi := getD_lt5 hp
              have gk5 := getD_lt5 hko
              have HC := Lib.hid (fun h => dupC_hit O i k h)
              have HM := Lib.hid (fun h => dupC_miss O i k h)
              rw [gi, gk5] at HC HM
              have hasc := dupC_asc O i k
              have hln := dupC_len O i k
              have hzi := HOS.out _ (List.getElem_mem hp)
              have hbz := hBw.size
              clear hk hk0 gi gk5 e2
              generalize O[i]'hp = zi at *
              generalize O[k]'hko = zk at *
              generalize dupC O i k = A at *
              have hpj : (k : Int) < (i : Int) := by omega
              have hkc : k < cO := by omega
              by_cases he : zk = zi
              · have ht := teq_yes he
                have HC2 := Lib.hid (HC.out he)
                have HPut := Lib.hid (fun n => l01Put_any w1.heap.size ga ca A zi (wr.drewN n) hown hbz hasc (by omega) (by omega))
                clear he hown hasc
                go_wp2
                go_quiet (fail)
                have ci2 : (wr.drewN nq).cell? ⟨gO2, i, none⟩ = some (.string zi) := ci
                have hB2 : Below wo.heap.size wo (wr.drewN nq) := hB.drewN nq
                have hBw2 : Below w1.heap.size w1 (wr.drewN nq) := hBw.drewN nq
                have HP2 := Lib.hid (HPut.out nq)
                clear ci ck HPut hB hBw
                generalize wr.drewN nq = wn at *
                go_wp2_with (go_at_call 107; refine HP2.out.mono ?_; rintro e w3 ⟨g3, c3, rfl, hown3, b3⟩)
                have hB3 := hB2.then b3
                have hBw3 := hBw2.then b3
                go_roundg gr
                case measure => omega
                case rel => exact ⟨k + 1, g3, c3, by have := HK.out; omega, by go_num, by rw [HC2.out], by rw [HC2.out]; exact hown3, hB3, hBw3⟩
              · have ht := teq_no he
                have HM2 := Lib.hid (HM.out he)
                clear he
                go_wp2
                go_quiet (fail)
                go_wp2
                go_roundg gr
                case measure => omega
                case rel => exact ⟨k + 1, ga, ca, by have := HK.out; omega, by go_num, by rw [HM2.out], by rw [HM2.out]; exact hown, hB.drewN _, hBw.drewN _⟩
            · obtain rfl : gk = 0 := by omega
              obtain rfl : k = i := by omega
              have HE := Lib.hid (dupC_end O k)
              have HZ := Lib.hid (dupC_zero O (k + 1))
              have hpj : ¬ ((k : Int) < (k : Int)) := by omega
              clear hk
              go_wp2
              go_roundg gq
              case measure => omega
              case rel => exact ⟨k + 1, ga, ca, by have := HI.out; omega, by go_num, by rw [HZ.out, ← HE.out], by rw [HZ.out, ← HE.out]; exact hown, hB, hBw⟩
        · obtain rfl : gk = 0 := by omega
          obtain rfl : i = O.length := by omega
          rw [dupC_zero] at hown ⊢
          have HO := Lib.hid hown
          have hpi : ¬ ((O.length : Int) < (O.length : Int)) := by omega
          clear hown hi
          go_wp2
          go_ret
          exact ⟨_, rfl, OwnS.base HO.out hb1, HB1.out.then hBw⟩

end Go.Proofs.YtbhgghajbdlfkabGreat
