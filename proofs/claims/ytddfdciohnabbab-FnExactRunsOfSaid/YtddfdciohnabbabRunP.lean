/- Runs with a least period: the program. -/
import Derived.Test.YtddfdciohnabbabRunI
import Derived.Test.YtddfdciohnabbabRoot
import Derived.Test.YtddfdciohnabbabSq
import Derived.Laws.StructEq
namespace Go.Proofs.Ytddfdciohnabbab
set_option linter.unusedVariables false
set_option linter.unusedSimpArgs false
open Go.RowKit

abbrev trV (r : Tr) : Value := .agg #[.int .i64 (r.1 : Int), .int .i64 (r.2.1 : Int), .int .i64 (r.2.2 : Int)]
theorem eq3_run (a b : Tr) (W : World) : (binOp .eql 113 (trV a) (trV b)).run Try.prog W = .ok (.bool (decide (a = b))) W := by
  obtain ⟨a0, a1, a2⟩ := a
  obtain ⟨b0, b1, b2⟩ := b
  have hf : Try.prog.fieldsOf 113 = #[{ name := "From", type := 2, offset := 0, embedded := false, tag := "", pkgPath := "", byteOffset := 0 }, { name := "To", type := 2, offset := 1, embedded := false, tag := "", pkgPath := "", byteOffset := 8 }, { name := "Period", type := 2, offset := 2, embedded := false, tag := "", pkgPath := "", byteOffset := 16 }] := by kernel_rfl
  have hs : Try.prog.stoodInHeld 113 = false := by kernel_rfl
  have he : ∀ (W : World) (a b : Int), (Op.equalIn 9999 2 (.int .i64 a) (.int .i64 b)).run Try.prog W = .ok (a == b) W := fun W a b => run_equalIn_int W 9998 2 .i64 .i64 a b Try.underlying2
  have p3 : ∀ (W : World) (x y z : Value) (j : Nat), j < 3 → (part 2 #[x, y, z] j).run Try.prog W = .ok ([x, y, z].getD j undef) W := by
    intro W x y z j hj
    rcases (show j = 0 ∨ j = 1 ∨ j = 2 by omega) with rfl | rfl | rfl <;> simp [part, isAgg, run_underlying Try.underlying2]
  have q0 := fun W x y z => p3 W x y z 0 (by omega)
  have q1 := fun W x y z => p3 W x y z 1 (by omega)
  have q2 := fun W x y z => p3 W x y z 2 (by omega)
  rw [run_eql_struct, show (10000 : Nat) = 9999 + 1 from rfl, run_equalIn_struct W 9999 _ _ _ (by rw [hf]; exact Try.underlying113) hs, hf]
  have key : (Op.eqFields 9999 #[.int .i64 (a0 : Int), .int .i64 (a1 : Int), .int .i64 (a2 : Int)] #[.int .i64 (b0 : Int), .int .i64 (b1 : Int), .int .i64 (b2 : Int)] (#[{ name := "From", type := 2, offset := 0, embedded := false, tag := "", pkgPath := "", byteOffset := 0 }, { name := "To", type := 2, offset := 1, embedded := false, tag := "", pkgPath := "", byteOffset := 8 }, { name := "Period", type := 2, offset := 2, embedded := false, tag := "", pkgPath := "", byteOffset := 16 }] : Array Field).toList).run Try.prog W = .ok (decide ((a0, a1, a2) = (b0, b1, b2))) W := by
    simp only [Op.eqFields, List.toList_toArray, Sem.run_bind, q0, q1, q2, Result.andThen_ok, List.getD_cons_zero, List.getD_cons_succ, he, Prod.mk.injEq]
    by_cases h0 : a0 = b0
    · by_cases h1 : a1 = b1
      · by_cases h2 : a2 = b2
        · simp [h0, h1, h2, q0, q1, q2, he]
        · have h2' : ¬ (a2 : Int) = b2 := by omega
          simp [h0, h1, h2, h2', q0, q1, q2, he]
      · have h1' : ¬ (a1 : Int) = b1 := by omega
        simp [h0, h1, h1', q0, q1, q2, he]
    · have h0' : ¬ (a0 : Int) = b0 := by omega
      simp [h0, h0', q0, q1, q2, he]
  show ((Op.eqFields 9999 _ _ _).run Try.prog W).andThen _ = _
  rw [key]
  rfl

/-- What the loop holds as the run before. -/
def befT (x : ByteArray) (q i : Nat) : Tr := if i = 0 then (0, 0, 0) else icell x q (i - 1)
theorem befT_zero (x : ByteArray) (q : Nat) : befT x q 0 = (0, 0, 0) := rfl
theorem befT_succ (x : ByteArray) (q i : Nat) : befT x q (i + 1) = icell x q i := rfl
theorem keep_iff {x : ByteArray} {q i : Nat} (hq : 0 < q) : keep x q i ↔ icell x q i ≠ befT x q i ∧ keepR x q i := by
  unfold keep befT
  constructor
  · rintro ⟨h1, h2⟩
    refine ⟨?_, h2⟩
    by_cases e : i = 0
    · rw [if_pos e]
      intro c
      have := congrArg (fun r : Tr => r.2.2) c
      simp only [icell] at this
      omega
    · rw [if_neg e]
      exact h1.elim (fun c => absurd c e) id
  · rintro ⟨h1, h2⟩
    refine ⟨?_, h2⟩
    by_cases e : i = 0
    · exact .inl e
    · rw [if_neg e] at h1; exact .inr h1
abbrev RnT (W : World) (b : Nat) (r : Tr) : Prop := Rn3 W b (.int .i64 (r.1 : Int)) (.int .i64 (r.2.1 : Int)) (.int .i64 (r.2.2 : Int))
theorem ext_len (x : ByteArray) {F T : Nat} (h1 : F ≤ T) (h2 : T ≤ x.size) : (x.extract F T).size = T - F := by simp; omega

set_option maxRecDepth 100000 in
set_option maxHeartbeats 8000000 in
theorem runsWithPeriod_any (x : ByteArray) (q : Nat) (w : World) (hx : x.size ≤ 60) (hq : 0 < q) (h2 : 2 * q ≤ x.size) :
    Calls Try.prog 112 #[.string x, .int .i64 (q : Int)] w fun e w' => ∃ v, e = .returned v ∧ OwnT w' w.heap.size v (irow x q (x.size + 1 - 2 * q)) ∧ Below w.heap.size w w' := by
  obtain ⟨i0, hi, hz0, hz1, hz2⟩ := info_parts infoT
  obtain ⟨N, hN⟩ : ∃ N, x.size + 1 - 2 * q = N := ⟨_, rfl⟩
  rw [hN]
  have hNx : N + 2 * q = x.size + 1 := by omega
  have ST0 := Lib.hid (Rn3.new w (.int .i64 0) (.int .i64 0) (.int .i64 0))
  have HLN := Lib.hid (irow_len x q)
  clear hN
  go_enter Try.func112, Try.ntmps112
  go_wp2
  go_loopg [5, 7] N (fun gk v s wr => ∃ (i : Nat) (r : Tr), i + gk = N ∧ s = .int .i64 (i : Int) ∧ OwnT wr (w.heap.size + 1) v (irow x q i) ∧ RnT wr w.heap.size r ∧ Hid (r = befT x q i) ∧ Below w.heap.size w wr)
  case atStart => exact ⟨0, (0, 0, 0), by omega, rfl, OwnT.nil _ _, ST0.out, Lib.hid rfl, Below.new _ _⟩
  case round =>
    obtain ⟨i, r, hig, rfl, own, st, HR, hB⟩ := hrel
    have hbz := hB.size
    have hlt := st.lt
    by_cases hp : i < N
    · obtain ⟨g1, rfl⟩ : ∃ j, gk = j + 1 := ⟨gk - 1, by omega⟩
      have hci : (i : Int) + 2 * (q : Int) ≤ (x.size : Int) := by omega
      have CS := Lib.hid fun W => stretchOf_any x i q W hx hq (by omega)
      obtain ⟨b1, b2, b3⟩ := icell_bd (x := x) (q := q) (i := i) (by omega)
      have HK := Lib.hid (keep_iff (x := x) (i := i) hq)
      have HKR : Hid (keepR x q i ↔ (2 * q ≤ strT x q (i + q) - strF x q i ∧ lpf x (strF x q i) (strT x q (i + q) - strF x q i) = q)) := Lib.hid Iff.rfl
      have HIC : Hid (icell x q i = (strF x q i, strT x q (i + q), q)) := Lib.hid rfl
      have HBS := Lib.hid (befT_succ x q i)
      have HY : Hid (keep x q i → irow x q (i + 1) = irow x q i ++ [icell x q i]) := Lib.hid irow_yes
      have HNO : Hid (¬ keep x q i → irow x q (i + 1) = irow x q i) := Lib.hid irow_no
      have hil := HLN.out i
      have CL : Hid (∀ W, Calls Try.prog 146 #[.string (x.extract (strF x q i) (strT x q (i + q)))] W fun e w' => e = .returned (.int .i64 (lpf x (strF x q i) (strT x q (i + q) - strF x q i) : Int)) ∧ Below W.heap.size W w') := Lib.hid fun W => by
        have hs := ext_len x (F := strF x q i) (T := strT x q (i + q)) (by omega) b3
        have := leastPeriod_any (x.extract (strF x q i) (strT x q (i + q))) W (by omega) (by omega)
        unfold lpf
        rwa [show strF x q i + (strT x q (i + q) - strF x q i) = strT x q (i + q) by omega]
      have SL := fun W => slice_two x (strF x q i : Int) (strT x q (i + q) : Int) (strF x q i) (strT x q (i + q)) rfl rfl (by omega) b3 W
      have hlb := lpf_bd (x := x) (i := strF x q i) (m := strT x q (i + q) - strF x q i) (by omega) (by omega)
      obtain ⟨hl0, hl1⟩ := hlb
      generalize lpf x (strF x q i) (strT x q (i + q) - strF x q i) = p at *
      generalize x.extract (strF x q i) (strT x q (i + q)) = y at *
      generalize strF x q i = F at *
      generalize strT x q (i + q) = T at *
      generalize irow x q i = L at *
      have EQ := fun W => eq3_run (F, T, q) r W
      simp only [trV] at EQ
      have c0 := st.c0
      have c1 := st.c1
      have c2 := st.c2
      have ST := Lib.hid st
      have OWN := Lib.hid own
      have HB := Lib.hid hB
      clear st own hB
      by_cases he : (F, T, q) = r
      · have HE : Hid (irow x q (i + 1) = L) := Lib.hid (HNO.out fun k => (HK.out.1 k).1 (by rw [HIC.out, ← HR.out]; exact he))
        have HR2 : Hid (r = befT x q (i + 1)) := Lib.hid (by rw [HBS.out, HIC.out]; exact he.symm)
        rw [decide_eq_true he] at EQ
        clear he
        go_wp2_with fail
        refine (CS.out _).mono ?_
        rintro e w2 ⟨rfl, q2⟩
        have hz2' := q2.size
        have NW := Rn3.new w2 (.int .i64 (F : Int)) (.int .i64 (T : Int)) (.int .i64 (q : Int))
        have ST2 := Lib.hid ((ST.out.later q2).later (Below.new w2 (.cells #[.int .i64 (F : Int), .int .i64 (T : Int), .int .i64 (q : Int)] 113)))
        have n0 := NW.c0
        have n1 := NW.c1
        have n2 := NW.c2
        have m0 := ST2.out.c0
        have m1 := ST2.out.c1
        have m2 := ST2.out.c2
        have OWN2 := Lib.hid ((OWN.out.below q2).below (Below.new w2 (.cells #[.int .i64 (F : Int), .int .i64 (T : Int), .int .i64 (q : Int)] 113)))
        have HB2 := Lib.hid ((HB.out.then q2).then (Below.new w2 (.cells #[.int .i64 (F : Int), .int .i64 (T : Int), .int .i64 (q : Int)] 113)))
        clear NW c0 c1 c2
        go_wp2_with fail
        go_roundg g1
        case measure => omega
        case rel => exact ⟨i + 1, r, by omega, by go_num, by rw [HE.out]; exact OWN2.out, ST2.out, HR2, HB2.out⟩
      · have HK2 : Hid (keep x q i ↔ (2 * q ≤ T - F ∧ p = q)) := Lib.hid (by
          rw [HK.out, HKR.out]
          exact ⟨fun h => h.2, fun h => ⟨by rw [HIC.out, ← HR.out]; exact he, h⟩⟩)
        have HR2 : Hid ((F, T, q) = befT x q (i + 1)) := Lib.hid (by rw [HBS.out, HIC.out])
        rw [decide_eq_false he] at EQ
        clear he
        have wr1 : IntKind.i64.wrap ((T : Int) - (F : Int)) = (T : Int) - (F : Int) := IntWalk.i64_in _ (by omega)
        by_cases hA : 2 * q ≤ T - F
        · have hAi : 2 * (q : Int) ≤ (T : Int) - (F : Int) := by omega
          have hAd : decide (2 * (q : Int) ≤ (T : Int) - (F : Int)) = true := decide_eq_true hAi
          by_cases hP : p = q
          · have HE : Hid (irow x q (i + 1) = L ++ [(F, T, q)]) := Lib.hid (by rw [HY.out (HK2.out.2 ⟨hA, hP⟩), HIC.out])
            have hPb : ((p : Int) == (q : Int)) = true := by rw [hP]; exact beq_self_eq_true _
            have hPi : (p : Int) = (q : Int) := by omega
            have HP := Lib.hid hP
            clear hP hA
            go_wp2_with fail
            refine (CS.out _).mono ?_
            rintro e w2 ⟨rfl, q2⟩
            have hz2' := q2.size
            have NW := Rn3.new w2 (.int .i64 (F : Int)) (.int .i64 (T : Int)) (.int .i64 (q : Int))
            have hb2 : Below w2.heap.size w2 (w2.alloc (.cells #[.int .i64 (F : Int), .int .i64 (T : Int), .int .i64 (q : Int)] 113)) := Below.new _ _
            have st2 := (ST.out.later q2).later hb2
            have own2 := (OWN.out.below q2).below hb2
            have hB2 := (HB.out.then q2).then hb2
            have n0 := NW.c0
            have n1 := NW.c1
            have n2 := NW.c2
            have m0 := st2.c0
            have m1 := st2.c1
            have m2 := st2.c2
            have f0 := st2.fz 0
            have f1 := st2.fz 1
            have f2 := st2.fz 2
            have ST3 := Lib.hid (st2.set3 (.int .i64 (F : Int)) (.int .i64 (T : Int)) (.int .i64 (q : Int)))
            have NW3 := ((NW.other (j := 0) (show w2.heap.size ≠ w.heap.size by omega) (.int .i64 (F : Int))).other (j := 1) (show w2.heap.size ≠ w.heap.size by omega) (.int .i64 (T : Int))).other (j := 2) (show w2.heap.size ≠ w.heap.size by omega) (.int .i64 (q : Int))
            have OWN3 : Hid (OwnT ((((w2.alloc (.cells #[.int .i64 (F : Int), .int .i64 (T : Int), .int .i64 (q : Int)] 113)).setCell ⟨w.heap.size, 0, none⟩ (.int .i64 (F : Int))).setCell ⟨w.heap.size, 1, none⟩ (.int .i64 (T : Int))).setCell ⟨w.heap.size, 2, none⟩ (.int .i64 (q : Int))) (w.heap.size + 1) u5 L) := Lib.hid (ownsRow_setCell_below (ownsRow_setCell_below (ownsRow_setCell_below own2 (Nat.lt_succ_self _) _) (Nat.lt_succ_self _) _) (Nat.lt_succ_self _) _)
            have HB3 := Lib.hid (((hB2.setCell (p := ⟨w.heap.size, 0, none⟩) (Nat.le_refl _) (.int .i64 (F : Int))).setCell (p := ⟨w.heap.size, 1, none⟩) (Nat.le_refl _) (.int .i64 (T : Int))).setCell (p := ⟨w.heap.size, 2, none⟩) (Nat.le_refl _) (.int .i64 (q : Int)))
            have NN3 := Lib.hid NW3
            have k0 := NW3.c0
            have k1 := NW3.c1
            have k2 := NW3.c2
            have hzn := NW3.lt
            clear NW NW3 st2 own2 hB2 hb2 c0 c1 c2
            clear hPi
            go_wp2_with fail
            refine (CL.out _).mono ?_
            rintro e w4 ⟨rfl, q4⟩
            have st4 := ST3.out.later q4
            have own5 := OWN3.out.below q4
            have hB4 := HB3.out.then q4
            have hz4 := hB4.size
            have nn4 := NN3.out.later q4
            have j0 := nn4.c0
            have j1 := nn4.c1
            have j2 := nn4.c2
            have ST4 := Lib.hid st4
            have HB4 := Lib.hid hB4
            clear st4 nn4 hB4
            go_wp2_with (at_builtin; go_loud (refine wpList_append_own _ rfl _ _ 47 rfl (w.heap.size + 1) 113 i0 (.agg #[.int .i64 0, .int .i64 0, .int .i64 0]) 3 24 Try.underlying47 hi hz0 hz1 hz2 rfl (by decide) _ _ _ rfl (World.ownsRow.alloc own5 _) ⟨_, 0, none⟩ 1 1 [.int .i64 (F : Int), .int .i64 (T : Int), .int .i64 (q : Int)] rfl rfl (cells3_new _ _ _ _ _) (by intro u hu; simp at hu; rcases hu with rfl | rfl | rfl <;> rfl) (by unfold maxLen; omega) (by omega) (by simp; omega) ?_); intro v' w6 hown' hgrow _)
            have HO := Lib.hid (ownT_snoc hown')
            rw [← HE.out] at HO
            have stz := (ST4.out.later (Below.new w4 (.cells #[.int .i64 (F : Int), .int .i64 (T : Int), .int .i64 (q : Int)] 113))).grown hgrow (fun e => by have := (own5.lt _ e.symm).1; omega)
            have HB5 : Below w.heap.size w w6 := (HB4.out.alloc HB4.out.size _).grown hgrow (HB4.out.alloc HB4.out.size _).size (fun z hz => by have := (own5.lt z hz).1; omega)
            have STZ := Lib.hid stz
            clear stz own5 hown' hgrow
            go_wp2_with fail
            go_roundg g1
            case measure => omega
            case rel => exact ⟨i + 1, (F, T, q), by omega, by go_num, HO.out, STZ.out, HR2, HB5⟩
          · have HE : Hid (irow x q (i + 1) = L) := Lib.hid (HNO.out fun k => hP (HK2.out.1 k).2)
            have hPb : ((p : Int) == (q : Int)) = false := beq_eq_false_iff_ne.2 (by omega)
            have hPi : ¬ (p : Int) = (q : Int) := by omega
            clear hP hA
            go_wp2_with fail
            refine (CS.out _).mono ?_
            rintro e w2 ⟨rfl, q2⟩
            have hz2' := q2.size
            have NW := Rn3.new w2 (.int .i64 (F : Int)) (.int .i64 (T : Int)) (.int .i64 (q : Int))
            have hb2 : Below w2.heap.size w2 (w2.alloc (.cells #[.int .i64 (F : Int), .int .i64 (T : Int), .int .i64 (q : Int)] 113)) := Below.new _ _
            have st2 := (ST.out.later q2).later hb2
            have own2 := (OWN.out.below q2).below hb2
            have hB2 := (HB.out.then q2).then hb2
            have n0 := NW.c0
            have n1 := NW.c1
            have n2 := NW.c2
            have m0 := st2.c0
            have m1 := st2.c1
            have m2 := st2.c2
            have f0 := st2.fz 0
            have f1 := st2.fz 1
            have f2 := st2.fz 2
            have ST3 := Lib.hid (st2.set3 (.int .i64 (F : Int)) (.int .i64 (T : Int)) (.int .i64 (q : Int)))
            have NW3 := ((NW.other (j := 0) (show w2.heap.size ≠ w.heap.size by omega) (.int .i64 (F : Int))).other (j := 1) (show w2.heap.size ≠ w.heap.size by omega) (.int .i64 (T : Int))).other (j := 2) (show w2.heap.size ≠ w.heap.size by omega) (.int .i64 (q : Int))
            have OWN3 : Hid (OwnT ((((w2.alloc (.cells #[.int .i64 (F : Int), .int .i64 (T : Int), .int .i64 (q : Int)] 113)).setCell ⟨w.heap.size, 0, none⟩ (.int .i64 (F : Int))).setCell ⟨w.heap.size, 1, none⟩ (.int .i64 (T : Int))).setCell ⟨w.heap.size, 2, none⟩ (.int .i64 (q : Int))) (w.heap.size + 1) u5 L) := Lib.hid (ownsRow_setCell_below (ownsRow_setCell_below (ownsRow_setCell_below own2 (Nat.lt_succ_self _) _) (Nat.lt_succ_self _) _) (Nat.lt_succ_self _) _)
            have HB3 := Lib.hid (((hB2.setCell (p := ⟨w.heap.size, 0, none⟩) (Nat.le_refl _) (.int .i64 (F : Int))).setCell (p := ⟨w.heap.size, 1, none⟩) (Nat.le_refl _) (.int .i64 (T : Int))).setCell (p := ⟨w.heap.size, 2, none⟩) (Nat.le_refl _) (.int .i64 (q : Int)))
            have NN3 := Lib.hid NW3
            have k0 := NW3.c0
            have k1 := NW3.c1
            have k2 := NW3.c2
            have hzn := NW3.lt
            clear NW NW3 st2 own2 hB2 hb2 c0 c1 c2
            go_wp2_with fail
            refine (CL.out _).mono ?_
            rintro e w4 ⟨rfl, q4⟩
            have st4 := ST3.out.later q4
            have own5 := OWN3.out.below q4
            have hB4 := HB3.out.then q4
            have hz4 := hB4.size
            have nn4 := NN3.out.later q4
            have j0 := nn4.c0
            have j1 := nn4.c1
            have j2 := nn4.c2
            have ST4 := Lib.hid st4
            have HB4 := Lib.hid hB4
            clear st4 nn4 hB4
            go_wp2_with fail
            go_roundg g1
            case measure => omega
            case rel => exact ⟨i + 1, (F, T, q), by omega, by go_num, by rw [HE.out]; exact own5, ST4.out, HR2, HB4.out⟩
        · have hAi : ¬ 2 * (q : Int) ≤ (T : Int) - (F : Int) := by omega
          have hAd : decide (2 * (q : Int) ≤ (T : Int) - (F : Int)) = false := decide_eq_false hAi
          have HE : Hid (irow x q (i + 1) = L) := Lib.hid (HNO.out fun k => hA (HK2.out.1 k).1)
          clear hA
          go_wp2_with fail
          refine (CS.out _).mono ?_
          rintro e w2 ⟨rfl, q2⟩
          have hz2' := q2.size
          have NW := Rn3.new w2 (.int .i64 (F : Int)) (.int .i64 (T : Int)) (.int .i64 (q : Int))
          have hb2 : Below w2.heap.size w2 (w2.alloc (.cells #[.int .i64 (F : Int), .int .i64 (T : Int), .int .i64 (q : Int)] 113)) := Below.new _ _
          have st2 := (ST.out.later q2).later hb2
          have own2 := (OWN.out.below q2).below hb2
          have hB2 := (HB.out.then q2).then hb2
          have n0 := NW.c0
          have n1 := NW.c1
          have n2 := NW.c2
          have m0 := st2.c0
          have m1 := st2.c1
          have m2 := st2.c2
          have f0 := st2.fz 0
          have f1 := st2.fz 1
          have f2 := st2.fz 2
          have ST3 := Lib.hid (st2.set3 (.int .i64 (F : Int)) (.int .i64 (T : Int)) (.int .i64 (q : Int)))
          have NW3 := ((NW.other (j := 0) (show w2.heap.size ≠ w.heap.size by omega) (.int .i64 (F : Int))).other (j := 1) (show w2.heap.size ≠ w.heap.size by omega) (.int .i64 (T : Int))).other (j := 2) (show w2.heap.size ≠ w.heap.size by omega) (.int .i64 (q : Int))
          have OWN3 : Hid (OwnT ((((w2.alloc (.cells #[.int .i64 (F : Int), .int .i64 (T : Int), .int .i64 (q : Int)] 113)).setCell ⟨w.heap.size, 0, none⟩ (.int .i64 (F : Int))).setCell ⟨w.heap.size, 1, none⟩ (.int .i64 (T : Int))).setCell ⟨w.heap.size, 2, none⟩ (.int .i64 (q : Int))) (w.heap.size + 1) u5 L) := Lib.hid (ownsRow_setCell_below (ownsRow_setCell_below (ownsRow_setCell_below own2 (Nat.lt_succ_self _) _) (Nat.lt_succ_self _) _) (Nat.lt_succ_self _) _)
          have HB3 := Lib.hid (((hB2.setCell (p := ⟨w.heap.size, 0, none⟩) (Nat.le_refl _) (.int .i64 (F : Int))).setCell (p := ⟨w.heap.size, 1, none⟩) (Nat.le_refl _) (.int .i64 (T : Int))).setCell (p := ⟨w.heap.size, 2, none⟩) (Nat.le_refl _) (.int .i64 (q : Int)))
          have NN3 := Lib.hid NW3
          have k0 := NW3.c0
          have k1 := NW3.c1
          have k2 := NW3.c2
          have hzn := NW3.lt
          clear NW NW3 st2 own2 hB2 hb2 c0 c1 c2
          go_wp2_with fail
          go_roundg g1
          case measure => omega
          case rel => exact ⟨i + 1, (F, T, q), by omega, by go_num, by rw [HE.out]; exact OWN3.out, ST3.out, HR2, HB3.out⟩
    · obtain rfl : gk = 0 := by omega
      obtain rfl : i = N := by omega
      have hci : ¬ (i : Int) + 2 * (q : Int) ≤ (x.size : Int) := by omega
      have HO := Lib.hid own
      clear own st
      go_wp2
      go_ret
      exact ⟨_, rfl, HO.out.base (by omega), hB⟩

end Go.Proofs.Ytddfdciohnabbab
