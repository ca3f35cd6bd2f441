/- Lengths of iterates: the program. -/
import Derived.Test.YtjneebhbgogppaaVec
import Derived.Test.YtjneebhbgogppaaLaPlain
import Derived.Test.YtjneebhbgogppaaIsLet
import Derived.Test.YtjneebhbgogppaaInts
namespace Go.Proofs.Ytjneebhbgogppaa
set_option linter.unusedVariables false
set_option linter.unusedSimpArgs false
open Go.RowKit

theorem int_snoc (L : List Int) (z : Int) : L.map (Value.int .i64) ++ [Value.int .i64 z] = (L ++ [z]).map (Value.int .i64) := by rw [List.map_append]; rfl

/-- An array's cell, by value. -/
theorem idx5 (f : Nat → Nat) (j : Nat) (hj : j < 5) (W : World) : (Instr.index 73 (vecV f) (.int .i64 (j : Int))).run Try.prog W = .ok (.int .i64 (f j : Int)) W := by
  have hs : Try.prog.cellsOf 2 = 1 := by kernel_rfl
  obtain ⟨i0, hi, _, hs1, _⟩ := info_parts infoI64
  rcases (show j = 0 ∨ j = 1 ∨ j = 2 ∨ j = 3 ∨ j = 4 by omega) with rfl | rfl | rfl | rfl | rfl <;> simp [Instr.index, run_underlying Try.underlying73, run_underlying Try.underlying2, run_sizeOf _ hi, hs1, asIntOf, part, isAgg, hs, go_sem]

set_option maxRecDepth 100000 in
set_option maxHeartbeats 2000000 in
theorem impl_LengthsAfter (B : Nat) (v : Value) (I : List (List UInt8)) (q k : Int) (w : World) (h : OwnS w B v (I.map bt)) (t : Tot I) (wq : (Lit.int .i64 q).wf = true) (wk : (Lit.int .i64 k).wf = true) :
    Calls Try.prog 31 #[.agg #[v], .int .i64 q, .int .i64 k] w (RetI (lensR I q k).1 (lensR I q k).2 w) := by
  obtain ⟨i0, hi, hz0, hz1, hz2⟩ := info_parts infoI64
  obtain ⟨p, c, hv⟩ := ownS_value h
  rw [List.length_map] at hv
  subst hv
  have hI := t.1
  have BN : Below w.heap.size w (w.alloc (.cells #[.slice p I.length c] 27)) := Below.new _ _
  have QN : Boxed (w.alloc (.cells #[.slice p I.length c] 27)) w.heap.size 27 (.slice p I.length c) := Boxed.new _ _ _
  have HBN := Lib.hid BN
  have HQN := Lib.hid QN
  have H := Lib.hid (h.below BN)
  clear BN QN h
  by_cases g : Mor I
  · have h1 := g.len1
    have h5 := g.len5
    have c1 := fun W h => isMor_yes B (.slice p I.length c) I W h g
    have C1 := Lib.hid c1
    clear c1
    by_cases hb : 0 ≤ q ∧ q < (I.length : Int)
    · have c2 : ∀ W, OwnS W B (.slice p I.length c) (I.map bt) → Calls Try.prog 65 #[.agg #[.slice p I.length c], .int .i64 q] W fun e w' => e = .returned (.bool true) ∧ Below W.heap.size W w' := fun W h => by
        have := isLetter_any B (.slice p I.length c) I q W h t
        rwa [decide_eq_true hb] at this
      have C2 := Lib.hid c2
      clear c2
      by_cases hk0 : 0 ≤ k ∧ k ≤ 20
      · obtain ⟨qn, rfl⟩ : ∃ qn : Nat, q = (qn : Int) := ⟨q.toNat, by omega⟩
        obtain ⟨kn, rfl⟩ : ∃ kn : Nat, k = (kn : Int) := ⟨k.toNat, by omega⟩
        have hqn : qn < I.length := by omega
        have hkn : kn ≤ 20 := by omega
        have ha := lets_oneL g hqn
        have c4 := fun W h i hto => counts_any B (.slice p I.length c) I (ct (hk I i [letr qn])) W h g (fun j _ => acc_len g ha hto j)
        have he : ∀ i, (fun j => acc I (ct (hk I i [letr qn])) j I.length) = ct (hk I (i + 1) [letr qn]) := fun i => funext fun j => acc_hkL g ha i j
        simp only [he] at c4
        have ROK : Hid (lenTo I (letr qn) kn → lensR I (qn : Int) (kn : Int) = (lensL I (letr qn) kn, 0)) := Lib.hid fun h => lensR_ok g hqn hkn h
        have ROV : Hid (lenOver I (letr qn) kn → lensR I (qn : Int) (kn : Int) = ([], 3)) := Lib.hid fun h => lensR_over g hqn hkn h
        have SCT : Hid (∀ i, sct (hk I i [letr qn]) 5 = (hk I i [letr qn]).length) := Lib.hid fun i => sct_hk g ha i
        have LNX : Hid (∀ i, (hk I i [letr qn]).length ≤ big15 → (hk I (i + 1) [letr qn]).length ≤ 12000000000000000) := Lib.hid fun i h => len_next g ha h
        have SNO : Hid (∀ i, lensL I (letr qn) (i + 1) = lensL I (letr qn) i ++ [((hk I (i + 1) [letr qn]).length : Int)]) := Lib.hid fun i => lensL_snoc I (letr qn) i
        have C3 := Lib.hid (fun W => oneLetter_any qn (by omega) W)
        have C4 := Lib.hid c4
        have C0 : Hid (ct [letr qn] = ct (hk I 0 [letr qn])) := Lib.hid rfl
        clear c4 he ha g hb hk0 wq wk
        go_enter Try.func31, Try.ntmps31
        go_wp2_with fail
        refine (C1.out _ H.out).mono ?_
        rintro e w1 ⟨rfl, b1⟩
        have q1 := boxed_later HQN.out b1
        have kq := q1.cell
        have B1 := HBN.out.then b1
        have S1 := Lib.hid (H.out.below b1)
        go_wp2_with fail
        refine (C2.out _ S1.out).mono ?_
        rintro e w2 ⟨rfl, b2⟩
        have q2 := boxed_later q1 b2
        have B2 := B1.then b2
        have S2 := Lib.hid (S1.out.below b2)
        clear kq q1 b1 S1 B1
        have kq := q2.cell
        go_wp2_with fail
        refine (C3.out _).mono ?_
        rintro e w3 ⟨rfl, b3⟩
        have q3 := boxed_later q2 b3
        have B3 := B2.then b3
        have S3 := Lib.hid (S2.out.below b3)
        have hz3 := B3.size
        have hq3 := q3.lt
        clear kq q2 b2 S2 B2
        rw [C0.out]
        have HTO := Lib.hid (lenTo.zero I (letr qn))
        go_wp2_with fail
        go_loopw [9, 32] (fun v t wr => ∃ i : Nat, i ≤ kn ∧ t = .int .i64 (i : Int) ∧ Arr5 wr w3.heap.size (ct (hk I i [letr qn])) ∧ OwnI wr (w3.heap.size + 1) v (lensL I (letr qn) i) ∧ lenTo I (letr qn) i ∧ Below w3.heap.size w3 wr) (fun _ t _ => kn - (intOf t).toNat)
        case atStart =>
          refine ⟨0, Nat.zero_le _, rfl, (Arr5.new _ _).later (Below.new _ _), ?_, HTO.out, (Below.new _ _).alloc (by simp) _⟩
          have := World.ownsRow_lit (base := w3.heap.size + 1) (e := 2) (size := 1) (w3.alloc (.cells #[.int .i64 (ct (hk I 0 [letr qn]) 0 : Int), .int .i64 (ct (hk I 0 [letr qn]) 1 : Int), .int .i64 (ct (hk I 0 [letr qn]) 2 : Int), .int .i64 (ct (hk I 0 [letr qn]) 3 : Int), .int .i64 (ct (hk I 0 [letr qn]) 4 : Int)] 73)) #[.int .i64 1] 1 (by simp) (by decide) (by simp)
          rw [World.size_alloc] at this
          exact this
        case round =>
          obtain ⟨i, hik, rfl, a1, on, hto, hB⟩ := hrel
          have hLL := lensL_len I (letr qn) i
          by_cases hp : i < kn
          · obtain ⟨gL, cL, rfl, hgL, -⟩ := on.row (by omega)
            rw [hLL] at on
            rw [hLL]
            obtain ⟨l2, hl2⟩ : ∃ l2, hk I (i + 1) [letr qn] = l2 := ⟨_, rfl⟩
            have kq := (boxed_later q3 hB).cell
            have hbw := hB.size
            have c5 := fun W (b : Below w3.heap.size w3 W) => C4.out W (S3.out.below b) i (hto i (by omega))
            have hnx := LNX.out i (hto i (by omega))
            have hsn := SNO.out i
            have hov : big15 < (hk I (i + 1) [letr qn]).length → lensR I (qn : Int) (kn : Int) = ([], 3) := fun h => ROV.out (lenTo.over h (by omega))
            have hok : (hk I (i + 1) [letr qn]).length ≤ big15 → lenTo I (letr qn) (i + 1) := fun h => hto.succ h
            have hs5 := SCT.out (i + 1)
            rw [hl2] at c5 hnx hsn hov hok hs5
            have hss := sct_succ l2
            have hsl := fun n hn => sct_le (n := n) hs5 hn
            have k0 := a1.cell 0 (by omega)
            have k1 := a1.cell 1 (by omega)
            have k2 := a1.cell 2 (by omega)
            have k3 := a1.cell 3 (by omega)
            have k4 := a1.cell 4 (by omega)
            have A1 := Lib.hid a1
            have C5 := Lib.hid c5
            have ON := Lib.hid on
            have HOV := Lib.hid hov
            have HOK := Lib.hid hok
            have HSN := Lib.hid hsn
            have HSS := Lib.hid hss
            have HSL := Lib.hid hsl
            have HS5 := Lib.hid hs5
            have HL2 := Lib.hid hl2
            have hzL : (lensL I (letr qn) i).length ≤ 21 := by omega
            have HLL := Lib.hid hLL
            clear a1 c5 on hov hok hsn hss hsl hs5 hto hl2 hLL
            go_wp2_with fail
            refine (C5.out _ hB).mono ?_
            rintro e w5 ⟨rfl, b5⟩
            have a5 := A1.out.later b5
            have B5 := hB.then b5
            have on5 := ON.out.below b5
            have hz5 := B5.size
            obtain ⟨W6, hW6⟩ : ∃ W6 : World, W6 = (((((w5.setCell ⟨w3.heap.size, 0, none⟩ (.int .i64 (ct l2 0 : Int))).setCell ⟨w3.heap.size, 1, none⟩ (.int .i64 (ct l2 1 : Int))).setCell ⟨w3.heap.size, 2, none⟩ (.int .i64 (ct l2 2 : Int))).setCell ⟨w3.heap.size, 3, none⟩ (.int .i64 (ct l2 3 : Int))).setCell ⟨w3.heap.size, 4, none⟩ (.int .i64 (ct l2 4 : Int))) := ⟨_, rfl⟩
            have a6 : Arr5 W6 w3.heap.size (ct l2) := by
              rw [hW6]
              exact (((((a5.set 0 (by omega) (ct l2 0)).set 1 (by omega) (ct l2 1)).set 2 (by omega) (ct l2 2)).set 3 (by omega) (ct l2 3)).set 4 (by omega) (ct l2 4)).congr fun j hj => by
                rcases (show j = 0 ∨ j = 1 ∨ j = 2 ∨ j = 3 ∨ j = 4 by omega) with rfl | rfl | rfl | rfl | rfl <;> rfl
            have on6 : OwnI W6 (w3.heap.size + 1) (.slice (some ⟨gL, 0, none⟩) (i + 1) cL) (lensL I (letr qn) i) := by
              rw [hW6]
              have hne : w3.heap.size ≠ gL := by omega
              have := HLL.out
              unfold OwnI at on5 ⊢
              exact own_setFar (own_setFar (own_setFar (own_setFar (own_setFar on5 hne) hne) hne) hne) hne
            have B6 : Below w3.heap.size w3 W6 := by
              rw [hW6]
              exact ((((B5.setCell (Nat.le_refl _) _).setCell (Nat.le_refl _) _).setCell (Nat.le_refl _) _).setCell (Nat.le_refl _) _).setCell (Nat.le_refl _) _
            have f0 := a5.frozen 0
            have f1 := a5.frozen 1
            have f2 := a5.frozen 2
            have f3 := a5.frozen 3
            have f4 := a5.frozen 4
            have q0 := a5.cell 0 (by omega)
            have q1 := a5.cell 1 (by omega)
            have q2 := a5.cell 2 (by omega)
            have q3' := a5.cell 3 (by omega)
            have q4 := a5.cell 4 (by omega)
            have HW6 := Lib.hid hW6
            have A6 := Lib.hid a6
            have O6 := Lib.hid on6
            have BB6 := Lib.hid B6
            clear k0 k1 k2 k3 k4 kq a5 on5 B5 a6 on6 B6 hW6 b5
            go_wp2_with fail
            rw [← HW6.out]
            clear f0 f1 f2 f3 f4 q0 q1 q2 q3' q4 HW6 hz5
            go_loopw [10, 38] (fun s t wr => ∃ j : Nat, j ≤ 5 ∧ t = .int .i64 (j : Int) ∧ s = .int .i64 (sct l2 j : Int) ∧ Arr5 wr w3.heap.size (ct l2) ∧ OwnI wr (w3.heap.size + 1) (.slice (some ⟨gL, 0, none⟩) (i + 1) cL) (lensL I (letr qn) i) ∧ Below w3.heap.size w3 wr) (fun _ t _ => 5 - (intOf t).toNat)
            case atStart => exact ⟨0, by omega, rfl, rfl, A6.out, O6.out, BB6.out⟩
            case round =>
              obtain ⟨j, hj, rfl, rfl, a7, on7, hB7⟩ := hrel
              have A7 := Lib.hid a7
              have O7 := Lib.hid on7
              have BB7 := Lib.hid hB7
              clear a7 on7 hB7
              by_cases hj5 : j < 5
              · have hw : IntKind.i64.wrap ((sct l2 j : Int) + (ct l2 j : Int)) = ((sct l2 (j + 1) : Nat) : Int) := by
                  have h1 := HSL.out (j + 1) (by omega)
                  have h2 := HSS.out j
                  rw [IntWalk.i64_in _ (by omega)]
                  omega
                have hix := fun W => idx5 (ct l2) j hj5 W
                have hj9 : (j : Int) < 5 := by omega
                go_wp2_with fail
                go_roundw
                case rel => exact ⟨j + 1, by omega, by go_num, by first | rfl | rw [hw] | (trace_state; sorry), A7.out, O7.out, BB7.out⟩
                case measure => simp [intOf]; omega
              · have hj0 : j = 5 := by omega
                subst hj0
                rw [HS5.out]
                by_cases hbig : big15 < l2.length
                · have HR := Lib.hid (HOV.out hbig)
                  have hb2 : (1000000000000000 : Int) < (l2.length : Int) := by unfold big15 at hbig; omega
                  clear hbig
                  go_wp2_with fail
                  go_ret2
                  unfold RetI
                  rw [HR.out]
                  exact ⟨_, rfl, OwnI.nil _ _, B3.then BB7.out⟩
                · have hb2 : ¬ (1000000000000000 : Int) < (l2.length : Int) := by unfold big15 at hbig; omega
                  have HT := Lib.hid (HOK.out (by omega))
                  clear hbig
                  have on7 := O7.out
                  have hlt7 := A7.out.lt
                  have hB7 := BB7.out
                  have hz7 := hB7.size
                  generalize lensL I (letr qn) i = L at *
                  have hLn := HLL.out
                  generalize hm : l2.length = m at *
                  have HM := Lib.hid hm
                  clear hm
                  go_wp2_with (at_builtin; go_loud (refine wpList_append_own _ rfl _ _ 42 rfl (w3.heap.size + 1) 2 i0 (.int .i64 0) 1 8 Try.underlying42 hi hz0 hz1 hz2 rfl (by decide) _ _ _ rfl (on7.alloc _) ⟨_, 0, none⟩ 1 1 [.int .i64 (m : Int)] rfl rfl (cell_new _ _ _) (by intro u hu; simp at hu; subst hu; rfl) (by unfold maxLen; omega) (by omega) (by simp; omega) ?_); intro v' w8 hown' hgrow _)
                  go_roundw
                  case rel =>
                    have ar : Arr5 (wr.alloc (.cells #[.int .i64 (m : Int)] 2)) w3.heap.size (ct l2) := A7.out.later (Below.new _ _)
                    refine ⟨i + 1, by omega, by go_num, ?_, ?_, HT.out, ?_⟩
                    · rw [HL2.out]
                      exact (hgrow.block _ ar.lt (fun e => by have := (on7.lt _ e.symm).1; omega)).trans ar
                    · unfold OwnI; rw [HSN.out, List.length_append, ← int_snoc]; exact hown'
                    · exact (hB7.alloc hz7 _).grown hgrow (by simp; omega) (fun q hq => by have := (on7.lt q hq).1; omega)
                  case measure => simp [intOf]; omega
          · have hie : i = kn := by omega
            subst hie
            have HR := Lib.hid (ROK.out hto)
            have ON := Lib.hid on
            clear on hto hLL a1
            go_wp2_with fail
            go_ret2
            unfold RetI
            rw [HR.out]
            exact ⟨_, rfl, ON.out.base (by omega), B3.then hB⟩
      · rw [lensR_out g (by omega)]
        have HK : Hid (¬ (0 ≤ k ∧ k ≤ 20)) := Lib.hid hk0
        clear wq g hk0
        by_cases hkn : k < 0
        · clear HK
          go_enter Try.func31, Try.ntmps31
          go_wp2_with fail
          refine (C1.out _ H.out).mono ?_
          rintro e w1 ⟨rfl, b1⟩
          have q1 := boxed_later HQN.out b1
          have kq := q1.cell
          have B1 := HBN.out.then b1
          go_wp2_with fail
          refine (C2.out _ (H.out.below b1)).mono ?_
          rintro e w2 ⟨rfl, b2⟩
          have B2 := B1.then b2
          clear kq
          go_wp2_with fail
          go_ret2
          exact ⟨_, rfl, OwnI.nil _ _, B2⟩
        · have hk2 : 20 < k := by have := HK.out; omega
          clear HK
          go_enter Try.func31, Try.ntmps31
          go_wp2_with fail
          refine (C1.out _ H.out).mono ?_
          rintro e w1 ⟨rfl, b1⟩
          have q1 := boxed_later HQN.out b1
          have kq := q1.cell
          have B1 := HBN.out.then b1
          go_wp2_with fail
          refine (C2.out _ (H.out.below b1)).mono ?_
          rintro e w2 ⟨rfl, b2⟩
          have B2 := B1.then b2
          clear kq
          go_wp2_with fail
          go_ret2
          exact ⟨_, rfl, OwnI.nil _ _, B2⟩
    · rw [lensR_out g (by omega)]
      have c2 : ∀ W, OwnS W B (.slice p I.length c) (I.map bt) → Calls Try.prog 65 #[.agg #[.slice p I.length c], .int .i64 q] W fun e w' => e = .returned (.bool false) ∧ Below W.heap.size W w' := fun W h => by
        have := isLetter_any B (.slice p I.length c) I q W h t
        rwa [decide_eq_false hb] at this
      have C2 := Lib.hid c2
      clear c2 hb wq g
      go_enter Try.func31, Try.ntmps31
      go_wp2_with fail
      refine (C1.out _ H.out).mono ?_
      rintro e w1 ⟨rfl, b1⟩
      have q1 := boxed_later HQN.out b1
      have kq := q1.cell
      have B1 := HBN.out.then b1
      go_wp2_with fail
      refine (C2.out _ (H.out.below b1)).mono ?_
      rintro e w2 ⟨rfl, b2⟩
      have B2 := B1.then b2
      clear kq
      go_wp2_with fail
      go_ret2
      exact ⟨_, rfl, OwnI.nil _ _, B2⟩
  · rw [lensR_bad g]
    have c1 := fun W h => isMor_no B (.slice p I.length c) I W h t g
    have C1 := Lib.hid c1
    clear c1 g
    go_enter Try.func31, Try.ntmps31
    go_wp2_with fail
    refine (C1.out _ H.out).mono ?_
    rintro e w1 ⟨rfl, b1⟩
    have B1 := HBN.out.then b1
    go_wp2_with fail
    go_ret2
    exact ⟨_, rfl, OwnI.nil _ _, B1⟩
end Go.Proofs.Ytjneebhbgogppaa
