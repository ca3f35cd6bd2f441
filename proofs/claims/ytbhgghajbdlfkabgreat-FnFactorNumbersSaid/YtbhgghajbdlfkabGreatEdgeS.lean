/- The edges of the graph of factors: the model. -/
import Derived.Test.YtbhgghajbdlfkabGreatEdge
import Derived.Test.YtbhgghajbdlfkabGreatNum5
import Derived.Test.YtbhgghajbdlfkabGreatFactorsS
import Derived.Deep.RegionHeld3
import Derived.Deep.AppendLies
namespace Go.Proofs.YtbhgghajbdlfkabGreat
set_option linter.unusedVariables false
set_option linter.unusedSimpArgs false
open Go.RowKit

theorem OwnS.formX5 {w : World} {B : Nat} {v : Value} {L : List ByteArray} (h : OwnS w B v L) : ∃ a c, v = .slice a L.length c := by
  obtain ⟨a, c, e, _⟩ := h.look5
  exact ⟨a, c, e⟩
theorem heap_two (W : World) (o o' : Obj) : ((W.alloc o).alloc o').heap[W.heap.size + 1]? = some o' := by
  have := heap_alloc_new (W.alloc o) o'
  rwa [World.size_alloc] at this

set_option maxRecDepth 100000 in
set_option maxHeartbeats 4000000 in
theorem spec_FactorEdges_ok (x : ByteArray) (m : Nat) (w : World) (h : IsW x) (hm : m ≤ 60) (sx : x.size ≤ maxLen) :
    Calls Tryz.prog 15 #[.string x, .int .i64 (m : Int)] w (RetR (edgesOf x m) 0 w) := by
  obtain ⟨i0, hi, hz0, hz1, hz2⟩ := info_parts infoSI
  have hmo : Tryz.prog.follows .mixedOrders = true := by kernel_rfl
  have hx := h.size
  have HT := Lib.hid fun w => l05Code_any x (m : Int) w sx
  rw [code5_ok h (by omega)] at HT
  have HP : Hid (∀ w, Calls Tryz.prog 78 #[.string x, .int .i64 (m : Int)] w fun e w' => ∃ v, e = .returned v ∧ OwnS w' w.heap.size v (facs x m) ∧ Below w.heap.size w w') := Lib.hid fun w => l01Factors_any x m w hx hm
  have HF : Hid (∀ w, Calls Tryz.prog 78 #[.string x, .int .i64 ((m : Int) + 1)] w fun e w' => ∃ v, e = .returned v ∧ OwnS w' w.heap.size v (facs x (m + 1)) ∧ Below w.heap.size w w') := Lib.hid fun w => by
    have := l01Factors_61 x (m + 1) w hx (by omega)
    rw [show ((m + 1 : Nat) : Int) = (m : Int) + 1 by omega] at this
    exact this
  have HSZ := Lib.hid (facs_size (x := x) (m := m + 1))
  have lP : (facs x m).length ≤ 61 := by have := facs_len x m; omega
  have lE : (facs x (m + 1)).length ≤ 61 := by have := facs_len x (m + 1); omega
  have HR : Hid (edgesOf x m = (facs x (m + 1)).map (edgeRow (facs x m) m)) := Lib.hid rfl
  generalize edgesOf x m = R at *
  generalize facs x (m + 1) = FF at *
  generalize facs x m = L at *
  clear h
  go_enter Tryz.func15, Tryz.ntmps15
  go_wp2_with fail
  refine (HT.out _).mono ?_
  rintro e w0 ⟨rfl, b0⟩
  go_wp2_with fail
  refine (HP.out _).mono ?_
  rintro e w1 ⟨v1, rfl, o1, b1⟩
  go_wp2_with fail
  refine (HF.out _).mono ?_
  rintro e w2 ⟨v2, rfl, o2, b2⟩
  have HV := Lib.hid fun k h => (OwnS.lt o1 k h).2
  have o1 := OwnS.below o1 b2
  have B2 := (b0.then b1).then b2
  obtain ⟨a2, c2, rfl, k2⟩ := o2.look5
  have K2 := Lib.hid k2
  have hs2 := B2.size
  have hs1w := b2.size
  clear o2 k2 b0 b1 b2
  go_wp2
  go_loopg [9, 10] FF.length (fun gk v i wr => ∃ k : Nat, k + gk = FF.length ∧ i = .int .i64 (k : Int) ∧ OwnR wr w2.heap.size v ((FF.take k).map (edgeRow L m)) ∧ OwnS wr w0.heap.size v1 L ∧ Below w2.heap.size w2 wr)
  case atStart => exact ⟨0, by omega, rfl, OwnR.lit0 w2 (Nat.le_refl _), OwnS.below o1 (Below.new _ _), Below.new _ _⟩
  case round =>
    clear o1
    obtain ⟨k, hk, rfl, hown, hoL, hB⟩ := hrel
    have hbz := hB.size
    by_cases hp : k < FF.length
    · obtain ⟨gq, rfl⟩ : ∃ gq, gk = gq + 1 := ⟨gk - 1, by omega⟩
      have HK := Lib.hid hk
      obtain ⟨gE, rfl, hgE, hcE, hE0⟩ := K2.out k hp
      have cE := ((bcell hB).1 gE k hgE).trans hE0
      have hz := HSZ.out _ (List.getElem_mem hp)
      have HTT : Hid (FF.take (k + 1) = FF.take k ++ [FF[k]'hp]) := Lib.hid (List.take_succ_eq_append_getElem hp)
      have hlk : (FF.take k).length = k := by rw [List.length_take]; omega
      obtain ⟨us, own, rows⟩ := hown
      have hul := rows.1
      rw [List.length_map, hlk] at hul
      have hu61 : us.length ≤ 61 := by omega
      have hpi : (k : Int) < (FF.length : Int) := by omega
      clear hk hlk hE0 hul
      generalize FF[k]'hp = z at *
      generalize FF.take k = seen at *
      have C1 := Lib.hid (l05Number_same _ v1 L (z.extract 0 m) wr.drew hoL (by omega))
      have C2 := Lib.hid (l05Number_same _ v1 L (z.extract 1 z.size) wr.drew hoL (by omega))
      have hs1 := fun W => slice_to z (m : Int) m rfl (by omega) W
      have hs2 := fun W => slice_from z 1 1 rfl (by omega) W
      have hr1 := idx_range L (z.extract 0 m)
      have hr2 := idx_range L (z.extract 1 z.size)
      have HER : Hid (edgeRow L m z = [Lib.idxOfS L (z.extract 0 m), Lib.idxOfS L (z.extract 1 z.size)]) := Lib.hid (by unfold edgeRow; rw [← hz])
      clear hz
      generalize Lib.idxOfS L (z.extract 0 m) = ia at *
      generalize Lib.idxOfS L (z.extract 1 z.size) = ib at *
      generalize z.extract 0 m = za at *
      generalize z.extract 1 z.size = zb at *
      have hgw : gE < wr.heap.size := by omega
      have hne : u9.ownBlock ≠ some gE := fun e => by have := (own.lt gE e).1; omega
      have HOL := Lib.hid hoL
      have HRW := Lib.hid rows
      clear hoL rows
      go_wp2_with fail
      go_region_held3 (fun w' => w'.cell? ⟨gE, k, none⟩ = some (.string z))
        (first | go_keep | (rw [hgrow.cell_far _ (by simp; omega) (Ne.symm hne)]; assumption))
        (first
          | (go_at_call 79; with_reducible refine C1.out.mono ?_; rintro e wy ⟨rfl, rfl⟩)
          | (go_at_call 79; with_reducible refine C2.out.mono ?_; rintro e wy ⟨rfl, rfl⟩)
          | (refine step_append_lies _ (by rfl) _ _ _ (by rfl) w2.heap.size 36 i0 _ 1 24 Tryz.underlying29 hi hz0 hz1 hz2 rfl (by omega) u9 us.length us (by rfl) (((own.alloc _).alloc _).drew) ⟨wr.heap.size + 1, 0, none⟩ 1 1 [.slice (some ⟨wr.heap.size, 0, none⟩) 2 2] (by rfl) (by rfl) (World.news_of_block (cs := #[.slice (some ⟨wr.heap.size, 0, none⟩) 2 2]) (t := 36) (fr := (0, 0)) (heap_two wr _ _)) (by simp [Value.oneCell']) (by omega) (by unfold maxLen; omega) (by omega) (by simp; omega) (wr.heap.size + 2) (by simp) ?_; intro gg cap w3 hown' hgrow hat hlt))
      have hgrow2 : ((wr.alloc (.cells #[.int .i64 ia, .int .i64 ib] 2)).alloc (.cells #[.slice (some ⟨wr.heap.size, 0, none⟩) 2 2] 36)).grownBy w3 u9.ownBlock := ⟨hgrow.os, hgrow.tape, hgrow.output, hgrow.size, hgrow.block⟩
      have hO := rows_grownE own HRW.out hbz hown' hgrow2
      have hBl := (hB.alloc hbz (.cells #[.int .i64 ia, .int .i64 ib] 2)).alloc (by simp; omega) (.cells #[.slice (some ⟨wr.heap.size, 0, none⟩) 2 2] 36)
      have hB4 : Below w2.heap.size w2 w3 := hBl.grown hgrow2 (by simp; omega) (fun q hq => (own.lt q hq).1)
      have hoL4 : OwnS w3 w0.heap.size v1 L := own_other (own_below (own_below HOL.out (Below.new _ _)) (Below.new _ _)) hgrow2 (fun q hq e => by have h1 := (own.lt q e).1; have h2 := HV.out q hq; omega)
      have HO := Lib.hid hO
      clear hown' hgrow hgrow2 own hBl hO cE
      go_wp2
      go_roundg gq
      case measure => omega
      case rel =>
        refine ⟨k + 1, by have := HK.out; omega, by go_num, ?_, hoL4, hB4⟩
        rw [HTT.out, List.map_append, List.map_cons, List.map_nil, HER.out]
        exact HO.out
    · obtain rfl : gk = 0 := by omega
      obtain rfl : k = FF.length := by omega
      rw [List.take_length] at hown
      have hpi : ¬ ((FF.length : Int) < (FF.length : Int)) := by omega
      have HOW := Lib.hid hown
      clear hown
      go_wp2
      go_ret2
      refine ⟨_, rfl, ?_, B2.then hB⟩
      rw [HR.out]
      exact OwnR.base HOW.out hs2

set_option maxRecDepth 100000 in
theorem spec_FactorEdges (x : ByteArray) (m : Int) (w : World) (sx : x.size ≤ maxLen) (wm : (Lit.int .i64 m).wf = true) :
    Calls Tryz.prog 15 #[.string x, .int .i64 m] w (RetR (feR x m).1 (feR x m).2 w) := by
  have HT := Lib.hid fun w => l05Code_any x m w sx
  by_cases h : IsW x
  · by_cases ho : m < 0 ∨ 60 < m
    · rw [feR_out h ho]
      rw [code5_out h ho] at HT
      have H := Lib.hid h
      clear h ho
      go_enter Tryz.func15, Tryz.ntmps15
      go_wp2_with fail
      refine (HT.out _).mono ?_
      rintro e w1 ⟨rfl, b1⟩
      go_wp2_with fail
      go_ret2
      exact ⟨_, rfl, OwnR.nil _ _, b1⟩
    · obtain ⟨n, rfl⟩ := Int.eq_ofNat_of_zero_le (show 0 ≤ m by omega)
      rw [feR_ok h (by omega)]
      exact spec_FactorEdges_ok x n w h (by omega) sx
  · rw [feR_bad h]
    rw [code5_bad h] at HT
    have H := Lib.hid h
    clear h
    go_enter Tryz.func15, Tryz.ntmps15
    go_wp2_with fail
    refine (HT.out _).mono ?_
    rintro e w1 ⟨rfl, b1⟩
    go_wp2_with fail
    go_ret2
    exact ⟨_, rfl, OwnR.nil _ _, b1⟩

set_option maxRecDepth 100000 in
theorem impl_CountCycles (x : ByteArray) (m : Int) (w : World) (sx : x.size ≤ maxLen) (wm : (Lit.int .i64 m).wf = true) :
    Calls Tryz.prog 16 #[.string x, .int .i64 m] w fun e w' => e = .returned (.tuple #[.int .i64 (ccyR x m).1, .int .i64 (ccyR x m).2]) ∧ Below w.heap.size w w' := by
  have HP := Lib.hid fun w => impl_FactorsOf x m w sx wm
  by_cases h : IsW x
  · by_cases ho : m < 0 ∨ 60 < m
    · rw [ccyR_out h ho]
      rw [factorsR_out h ho] at HP
      clear h ho
      go_enter Tryz.func16, Tryz.ntmps16
      go_wp2_with (go_at_call 20; refine (HP.out _).mono ?_; rintro e w1 ⟨v1, rfl, o1, b1⟩; obtain ⟨a1, c1, rfl⟩ := OwnS.empty o1)
      go_ret2
      exact ⟨rfl, b1⟩
    · obtain ⟨n, rfl⟩ := Int.eq_ofNat_of_zero_le (show 0 ≤ m by omega)
      have hn : n ≤ 60 := by omega
      have hx := h.size
      rw [factorsR_ok h hn] at HP
      change Hid (∀ w, Calls _ _ _ w (RetS (facs x n) 0 w)) at HP
      by_cases h0 : (facs x n).length = 0
      · rw [ccyR_none h hn h0]
        rw [List.eq_nil_of_length_eq_zero h0] at HP
        clear h ho h0
        go_enter Tryz.func16, Tryz.ntmps16
        go_wp2_with (go_at_call 20; refine (HP.out _).mono ?_; rintro e w1 ⟨v1, rfl, o1, b1⟩; obtain ⟨a1, c1, rfl⟩ := OwnS.empty o1)
        go_ret2
        exact ⟨rfl, b1⟩
      · rw [ccyR_ok h hn h0]
        have HE := Lib.hid fun w => impl_FactorEdges_ok x n w h hn sx
        have hle := edgesOf_len x n
        have l1 := facs_len x n
        have l2 := facs_len x (n + 1)
        rw [← hle]
        rw [← hle] at l2
        clear hle
        generalize edgesOf x n = E at *
        generalize facs x n = L at *
        have hzi : ((L.length : Int) == 0) = false := beq_eq_false_iff_ne.2 (by omega)
        clear h ho h0
        go_enter Tryz.func16, Tryz.ntmps16
        go_wp2_with (first | (go_at_call 20; refine (HP.out _).mono ?_; rintro e w1 ⟨v1, rfl, o1, b1⟩; obtain ⟨a1, c1, rfl⟩ := OwnS.formX5 o1) | (go_at_call 14; refine (HE.out _).mono ?_; rintro e w2 ⟨v2, rfl, o2, b2⟩; obtain ⟨a2, c2, rfl⟩ := OwnR.value o2))
        go_ret2
        exact ⟨rfl, b1.then b2⟩
  · rw [ccyR_bad h]
    rw [factorsR_bad h] at HP
    clear h
    go_enter Tryz.func16, Tryz.ntmps16
    go_wp2_with (go_at_call 20; refine (HP.out _).mono ?_; rintro e w1 ⟨v1, rfl, o1, b1⟩; obtain ⟨a1, c1, rfl⟩ := OwnS.empty o1)
    go_ret2
    exact ⟨rfl, b1⟩

set_option maxRecDepth 100000 in
theorem spec_CountCycles (x : ByteArray) (m : Int) (w : World) (sx : x.size ≤ maxLen) (wm : (Lit.int .i64 m).wf = true) :
    Calls Tryz.prog 17 #[.string x, .int .i64 m] w fun e w' => e = .returned (.tuple #[.int .i64 (ccyR x m).1, .int .i64 (ccyR x m).2]) ∧ Below w.heap.size w w' := by
  have HT := Lib.hid fun w => l05Code_any x m w sx
  by_cases h : IsW x
  · by_cases ho : m < 0 ∨ 60 < m
    · rw [ccyR_out h ho]
      rw [code5_out h ho] at HT
      clear h ho
      go_enter Tryz.func17, Tryz.ntmps17
      go_wp2_with fail
      refine (HT.out _).mono ?_
      rintro e w1 ⟨rfl, b1⟩
      go_wp2_with fail
      go_ret2
      exact ⟨rfl, b1⟩
    · obtain ⟨n, rfl⟩ := Int.eq_ofNat_of_zero_le (show 0 ≤ m by omega)
      have hn : n ≤ 60 := by omega
      have hx := h.size
      rw [code5_ok h ho] at HT
      have HP : Hid (∀ w, Calls Tryz.prog 78 #[.string x, .int .i64 (n : Int)] w fun e w' => ∃ v, e = .returned v ∧ OwnS w' w.heap.size v (facs x n) ∧ Below w.heap.size w w') := Lib.hid fun w => l01Factors_any x n w hx hn
      have HF : Hid (∀ w, Calls Tryz.prog 78 #[.string x, .int .i64 ((n : Int) + 1)] w fun e w' => ∃ v, e = .returned v ∧ OwnS w' w.heap.size v (facs x (n + 1)) ∧ Below w.heap.size w w') := Lib.hid fun w => by
        have := l01Factors_61 x (n + 1) w hx (by omega)
        rw [show ((n + 1 : Nat) : Int) = (n : Int) + 1 by omega] at this
        exact this
      by_cases h0 : (facs x n).length = 0
      · rw [ccyR_none h hn h0]
        rw [List.eq_nil_of_length_eq_zero h0] at HP
        clear h ho h0
        go_enter Tryz.func17, Tryz.ntmps17
        go_wp2_with fail
        refine (HT.out _).mono ?_
        rintro e w1 ⟨rfl, b1⟩
        go_wp2_with fail
        refine (HP.out _).mono ?_
        rintro e w2 ⟨v2, rfl, o2, b2⟩
        obtain ⟨a2, c2, rfl⟩ := OwnS.empty o2
        go_wp2_with fail
        go_ret2
        exact ⟨rfl, b1.then b2⟩
      · rw [ccyR_ok h hn h0]
        have l1 := facs_len x n
        have l2 := facs_len x (n + 1)
        generalize facs x (n + 1) = E at *
        generalize facs x n = L at *
        have hzi : ((L.length : Int) == 0) = false := beq_eq_false_iff_ne.2 (by omega)
        clear h ho h0
        go_enter Tryz.func17, Tryz.ntmps17
        go_wp2_with fail
        refine (HT.out _).mono ?_
        rintro e w1 ⟨rfl, b1⟩
        go_wp2_with fail
        refine (HP.out _).mono ?_
        rintro e w2 ⟨v2, rfl, o2, b2⟩
        obtain ⟨a2, c2, rfl⟩ := OwnS.formX5 o2
        go_wp2_with fail
        refine (HF.out _).mono ?_
        rintro e w3 ⟨v3, rfl, o3, b3⟩
        obtain ⟨a3, c3, rfl⟩ := OwnS.formX5 o3
        go_wp2_with fail
        go_ret2
        exact ⟨rfl, (b1.then b2).then b3⟩
  · rw [ccyR_bad h]
    rw [code5_bad h] at HT
    clear h
    go_enter Tryz.func17, Tryz.ntmps17
    go_wp2_with fail
    refine (HT.out _).mono ?_
    rintro e w1 ⟨rfl, b1⟩
    go_wp2_with fail
    go_ret2
    exact ⟨rfl, b1⟩

end Go.Proofs.YtbhgghajbdlfkabGreat
