/- Factors that are all alike; the iterator over abelian powers: the program. -/
import Derived.Test.YtolboinemechpaaAb
import Derived.Test.YtolboinemechpaaRepIter
import Derived.Test.YtolboinemechpaaPairs
import Derived.Deep.RegionHeld3
namespace Go.Proofs.Ytolboinemechpaa
set_option linter.unusedVariables false
set_option linter.unusedSimpArgs false
open Go.RowKit Go.Shelf
attribute [local go_sem] Oper.semAt_some

set_option maxRecDepth 100000 in
set_option maxHeartbeats 2000000 in
theorem areFactorsAlike_any (x : ByteArray) (m : Nat) (w : World) (h : IsW x) (hm1 : 1 ≤ m) (hm2 : m ≤ 61) :
    Calls Try.prog 91 #[.string x, .int .i64 (m : Int)] w fun e w' => e = .returned (.bool (decide (alk (bl x) m))) ∧ Below w.heap.size w w' := by
  obtain ⟨R, hR⟩ : ∃ R, decide (alk (bl x) m) = R := ⟨_, rfl⟩
  rw [hR]
  have HR := Lib.hid hR
  clear hR
  have hx := h.size
  have H := Lib.hid h
  clear h
  go_enter Try.func91, Try.ntmps91
  go_wp2
  go_loopg [5] 62 (fun gk s5 wr => ∃ j P : Nat, 1 ≤ j ∧ j + gk = 63 ∧ s5 = .int .i64 (P : Int) ∧ P ≤ 122 ∧ j ≤ P ∧ Hid (j * m = P) ∧ Hid (alkTo (bl x) m j) ∧ Below w.heap.size w wr)
  case atStart => exact ⟨1, m, by omega, by omega, rfl, by omega, by omega, Lib.hid (Nat.one_mul m), Lib.hid (alkTo.one _ _), Below.refl _ _⟩
  case round =>
    obtain ⟨j, P, hj1, hj, rfl, hP, hjP, HP, HT, hB⟩ := hrel
    by_cases hc : P + m ≤ x.size
    · obtain ⟨g, rfl⟩ : ∃ g, gk = g + 1 := ⟨gk - 1, by omega⟩
      have hci : (P : Int) + (m : Int) ≤ (x.size : Int) := by omega
      have V1 := Lib.hid fun W => vectorOf_any (x.extract P (P + m)) W (H.out.sub _ _)
      have V2 := Lib.hid fun W => vectorOf_any (x.extract 0 m) W (H.out.sub _ _)
      have h1 : bl (x.extract P (P + m)) = blk (bl x) m j := by rw [bl_extract, Nat.add_sub_cancel_left]; unfold blk; rw [HP.out]
      have h2 : bl (x.extract 0 m) = blk (bl x) m 0 := by rw [bl_take]; unfold blk; rw [Nat.zero_mul, List.drop_zero]
      rw [h1] at V1
      rw [h2] at V2
      have hsl1 := fun W => slice_nm x (P : Int) ((P : Int) + (m : Int)) P (P + m) rfl (by omega) (by omega) (by omega) W
      have hsl2 := fun W => slice_0m x m (by omega) W
      obtain ⟨q, hq⟩ : ∃ q, vq (blk (bl x) m j) (blk (bl x) m 0) = q := ⟨_, rfl⟩
      have EQ := fun W => eq5_run W (ct (blk (bl x) m j) 0 : Int) (ct (blk (bl x) m j) 1) (ct (blk (bl x) m j) 2) (ct (blk (bl x) m j) 3) (ct (blk (bl x) m j) 4) (ct (blk (bl x) m 0) 0) (ct (blk (bl x) m 0) 1) (ct (blk (bl x) m 0) 2) (ct (blk (bl x) m 0) 3) (ct (blk (bl x) m 0) 4)
      rw [vq_int, hq] at EQ
      have HQ := Lib.hid hq
      have hwr : IntKind.i64.wrap ((P : Int) + (m : Int)) = (P : Int) + (m : Int) := IntWalk.i64_in _ (by omega)
      have hmo : Try.prog.follows .mixedOrders = true := by kernel_rfl
      clear hq h1 h2
      generalize ct (blk (bl x) m j) = f1 at *
      generalize ct (blk (bl x) m 0) = f2 at *
      generalize x.extract P (P + m) = z1 at *
      generalize x.extract 0 m = z2 at *
      go_wp2_with fail
      go_region_held3 (fun w' => True) (exact trivial)
        (first
          | (go_at_call 53; with_reducible refine (V1.out _).mono ?_; rintro e wa ⟨rfl, ba⟩)
          | (go_at_call 53; with_reducible refine (V2.out _).mono ?_; rintro e wb ⟨rfl, bb⟩))
      have hB2 := (hB.drew.then ba).then bb
      clear ba bb hsl1 hsl2 EQ
      cases q with
      | true =>
        have HT2 := Lib.hid (HT.out.succ HQ.out)
        have HP2 : Hid ((j + 1) * m = P + m) := Lib.hid (by rw [Nat.add_mul, HP.out, Nat.one_mul])
        go_wp2
        go_roundg g
        case measure => omega
        case rel => exact ⟨j + 1, P + m, by omega, by omega, by go_num, by omega, by omega, HP2, HT2, hB2⟩
      | false =>
        have HN : Hid (R = false) := Lib.hid (by
          rw [← HR.out]
          have := alk_no (l := bl x) hj1 (by rw [Nat.add_mul, HP.out, Nat.one_mul, bl_len]; exact hc) HQ.out
          simp [this])
        go_wp2
        go_ret
        exact ⟨by rw [HN.out]; rfl, hB2⟩
    · have hci : ¬ (P : Int) + (m : Int) ≤ (x.size : Int) := by omega
      have HN : Hid (R = true) := Lib.hid (by
        rw [← HR.out]
        have := HT.out.all (l := bl x) (by rw [Nat.add_mul, HP.out, Nat.one_mul, bl_len]; omega)
        simp [this])
      go_wp2
      go_ret
      exact ⟨by rw [HN.out]; rfl, hB⟩

theorem grown_of_b {W W' : World} (k : Below W.heap.size W W') (r : Option Nat) : W.grownBy W' r := ⟨k.os, k.tape, k.output, k.size, fun j hj _ => k.block j hj⟩
/-- What a round keeps: whatever lay below n₀; the two boxes. -/
def KpA (n₀ b1 b2 : Nat) (W W' : World) : Prop := Below n₀ W W' ∧ W'.heap[b1]? = W.heap[b1]? ∧ W'.heap[b2]? = W.heap[b2]?
theorem kpA_t {n₀ b1 b2 : Nat} {A B C : World} (h : KpA n₀ b1 b2 A B) (k : KpA n₀ b1 b2 B C) : KpA n₀ b1 b2 A C := ⟨h.1.trans k.1, k.2.1.trans h.2.1, k.2.2.trans h.2.2⟩
theorem kpA_b {n₀ b1 b2 : Nat} {w : World} (hn : n₀ ≤ w.heap.size) (h1 : b1 < w.heap.size) (h2 : b2 < w.heap.size) (W : World) (l : Nat) (o o' : Obj) (hl : w.heap.size ≤ l) (h : W.heap[l]? = some o) (hc : o.isCells = false) (hw : o.isWalk = false) : KpA n₀ b1 b2 W (W.putObj l o') := by
  have hlt := (Array.getElem?_eq_some_iff.1 h).1
  exact ⟨belowK_b hn W l o o' hl h hc hw, (grownBy_putObj' W l o').block b1 (by omega) (fun e => by cases e; omega), (grownBy_putObj' W l o').block b2 (by omega) (fun e => by cases e; omega)⟩

set_option maxRecDepth 100000 in
set_option maxHeartbeats 4000000 in
theorem aps1_in (n : Nat) (hn : 1 ≤ n) (l b1 b2 n₀ : Nat) (x : ByteArray) (k : Nat) (h : IsW x) (hk1 : 2 ≤ k) (hk2 : k ≤ 60) (J Jx : List (Nat × Nat) → World → Prop) (W : World) (hA : AbidesFrom W.heap.size J)
    (hY : ∀ pre p W, J pre W → pre.length < (aps (bl x) k).length → YieldAt Fence.wide (n - 1) Try.prog l (encP p) W fun e W' =>
      (e = .returned (.bool true) ∧ J (pre ++ [p]) W' ∧ KpA n₀ b1 b2 W W') ∨ (e = .returned (.bool false) ∧ Jx (pre ++ [p]) W'))
    (c1 : Boxed W b1 9 (.string x)) (c2 : Boxed W b2 2 (.int .i64 (k : Int))) (h0 : J [] W) :
    CallsIn Fence.wide n Try.prog 90 #[.func (.yield l) #[] #[], .pointer (some ⟨b1, 0, none⟩), .pointer (some ⟨b2, 0, none⟩)] W fun e W' => (∃ v, e = .returned v) ∧
      ((∃ ys, ys = aps (bl x) k ∧ J ys W') ∨ (∃ pre, (∃ t, pre ++ t = aps (bl x) k) ∧ Jx pre W')) := by
  obtain ⟨R, hR⟩ : ∃ R, aps (bl x) k = R := ⟨_, rfl⟩
  rw [hR] at hY ⊢
  have hx := h.size
  have H := Lib.hid h
  have HR0 : Hid (pall (apB (bl x) k) x.size 0 x.size = R) := Lib.hid hR
  clear hR h
  refine callsIn_of_wp Try.func90 rfl trivial ?_ rfl
  simp only [Try.ntmps90, List.size_toArray, List.length_cons, List.length_nil, Nat.reduceAdd, Nat.reduceSub, Array.replicate_succ, Array.replicate_zero, List.push_toArray, List.append_toArray, List.nil_append, List.cons_append]
  have e0 := c1.cell
  gi_wp2
  gi_loopg [10] x.size (fun g s10 wr => ∃ (i : Nat) (pre : List (Nat × Nat)), i + g = x.size ∧ s10 = .int .i64 (i : Int) ∧ J pre wr ∧ Boxed wr b1 9 (.string x) ∧ Boxed wr b2 2 (.int .i64 (k : Int)) ∧ Hid (pre ++ pall (apB (bl x) k) x.size i g = R))
  case atStart => exact ⟨0, [], by omega, rfl, h0, c1, c2, HR0⟩
  case round =>
    obtain ⟨i, pre, hg, rfl, hJ, d1, d2, HR⟩ := hrel
    clear HR0 h0
    by_cases hp : i < x.size
    · obtain ⟨g, rfl⟩ : ∃ g, gk = g + 1 := ⟨gk - 1, by omega⟩
      have HR1 : Hid (pre ++ prow (apB (bl x) k) i 1 x.size ++ pall (apB (bl x) k) x.size (i + 1) g = R) := Lib.hid (by rw [List.append_assoc]; exact HR.out)
      have hpd : decide ((i : Int) < (x.size : Int)) = true := by simp; omega
      gi_wp2
      gi_loopg [6] x.size (fun g2 s6 wr => ∃ (q : Nat) (pre : List (Nat × Nat)), 0 < q ∧ q + g2 = x.size + 1 ∧ s6 = .int .i64 (q : Int) ∧ J pre wr ∧ Boxed wr b1 9 (.string x) ∧ Boxed wr b2 2 (.int .i64 (k : Int)) ∧ Hid (pre ++ prow (apB (bl x) k) i q g2 ++ pall (apB (bl x) k) x.size (i + 1) g = R))
      case atStart => exact ⟨1, pre, by omega, by omega, rfl, hJ, d1, d2, HR1⟩
      case round =>
        clear hJ d1 d2 HR HR1
        obtain ⟨q, pre2, hq, hg2, rfl, hJ, d1, d2, HR⟩ := hrel
        obtain ⟨P, hP⟩ : ∃ P, k * q = P := ⟨_, rfl⟩
        have hPi : (k : Int) * (q : Int) = (P : Int) := by rw [← hP]; exact (Int.natCast_mul k q).symm
        have hPq : q ≤ P := by rw [← hP]; exact Nat.le_mul_of_pos_left q (by omega)
        have hPl : P ≤ 4000 := by rw [← hP]; exact Nat.le_trans (Nat.mul_le_mul hk2 (show q ≤ 61 by omega)) (by decide)
        have HP := Lib.hid hP
        clear hP
        have e1 := d1.cell
        have e2 := d2.cell
        by_cases hc : i + P ≤ x.size
        · obtain ⟨g2, rfl⟩ : ∃ g2, gk = g2 + 1 := ⟨gk - 1, by omega⟩
          have hP0 : (0 : Int) ≤ (k : Int) * (q : Int) := by omega
          have hci : (i : Int) + (P : Int) ≤ (x.size : Int) := by omega
          have hsl := fun W => slice_nm x (i : Int) ((i : Int) + (P : Int)) i (i + P) rfl (by omega) (by omega) (by omega) W
          have CF := fun W => areFactorsAlike_any (x.extract i (i + P)) q W (H.out.sub _ _) (by omega) (by omega)
          have hB : bl (x.extract i (i + P)) = ((bl x).drop i).take (k * q) := by rw [bl_extract, Nat.add_sub_cancel_left, HP.out]
          rw [hB] at CF
          by_cases he : apB (bl x) k i q
          · have he2 := he.2
            simp only [he2, decide_true] at CF
            have HN : Hid (pre2 ++ [(i, q)] ++ prow (apB (bl x) k) i (q + 1) g2 ++ pall (apB (bl x) k) x.size (i + 1) g = R) := Lib.hid (by rw [← HR.out, prow_hit he]; simp)
            have hpl : pre2.length < R.length := by
              have h2 := congrArg List.length HN.out
              simp only [List.length_append, List.length_cons, List.length_nil] at h2
              omega
            have CF2 := Lib.hid CF
            clear he he2 CF hB
            gi_wp2_with fail
            refine ⟨trivial, ?_⟩
            refine (callsIn_wide.2 (CF2.out _)).mono ?_
            rintro e w2 ⟨rfl, bb⟩
            have hJ2 := hA _ _ _ none hJ (grown_of_b bb none) (fun r e => by cases e)
            have f1 := (bb.block b1 d1.lt).trans d1
            have f2 := (bb.block b2 d2.lt).trans d2
            obtain ⟨fn, tmps, assign, body, hy, hRd⟩ := hY _ (i, q) w2 hJ2 hpl
            clear hJ d1 d2 e1 e2 hsl
            dsimp only [encP] at hy
            gi_wp2
            refine hRd.mono ?_
            rintro e W3 (⟨rfl, hJ3, hk3⟩ | ⟨rfl, hJx3⟩)
            · gi_wp2
              gi_roundg g2
              case measure => omega
              case rel => exact ⟨q + 1, pre2 ++ [(i, q)], by omega, by omega, by go_num, hJ3, hk3.2.1.trans f1, hk3.2.2.trans f2, HN⟩
            · gi_wp2
              refine bodyPost_ret (results_none rfl _ _ _) rfl ?_
              exact ⟨⟨_, rfl⟩, .inr ⟨_, ⟨prow (apB (bl x) k) i (q + 1) g2 ++ pall (apB (bl x) k) x.size (i + 1) g, by rw [← HN.out]; simp⟩, hJx3⟩⟩
          · have he2 : ¬ alk (((bl x).drop i).take (k * q)) q := fun h => he ⟨by rw [HP.out, bl_len]; exact hc, h⟩
            simp only [he2, decide_false] at CF
            have HN : Hid (pre2 ++ prow (apB (bl x) k) i (q + 1) g2 ++ pall (apB (bl x) k) x.size (i + 1) g = R) := Lib.hid (by rw [← HR.out, prow_miss he])
            have CF2 := Lib.hid CF
            clear he he2 CF hB
            gi_wp2_with fail
            refine ⟨trivial, ?_⟩
            refine (callsIn_wide.2 (CF2.out _)).mono ?_
            rintro e w2 ⟨rfl, bb⟩
            have hJ2 := hA _ _ _ none hJ (grown_of_b bb none) (fun r e => by cases e)
            have f1 := (bb.block b1 d1.lt).trans d1
            have f2 := (bb.block b2 d2.lt).trans d2
            clear hJ d1 d2 e1 e2 hsl
            gi_wp2
            refine ⟨fun f e => (by cases e), ?_⟩
            gi_wp2
            gi_roundg g2
            case measure => omega
            case rel => exact ⟨q + 1, pre2, by omega, by omega, by go_num, hJ2, f1, f2, HN⟩
        · have hci : ¬ (i : Int) + (P : Int) ≤ (x.size : Int) := by omega
          have hP0 : (0 : Int) ≤ (k : Int) * (q : Int) := by omega
          have HN : Hid (pre2 ++ pall (apB (bl x) k) x.size (i + 1) g = R) := Lib.hid (by
            rw [← HR.out, prow_stop _ (by rw [HP.out, bl_len]; omega), List.append_nil])
          gi_wp2
          gi_roundg g
          case measure => omega
          case rel => exact ⟨i + 1, pre2, by omega, by go_num, hJ, d1, d2, HN⟩
    · obtain rfl : gk = 0 := by omega
      have HV : Hid (pre = R) := Lib.hid (by rw [← HR.out, pall, List.append_nil])
      gi_wp2
      go_end0
      exact ⟨⟨_, rfl⟩, .inl ⟨_, HV.out, hJ⟩⟩

theorem aps_stops (n : Nat) (hn : 1 ≤ n) (b1 b2 n₀ : Nat) (x : ByteArray) (k : Nat) (h : IsW x) (hk1 : 2 ≤ k) (hk2 : k ≤ 60) (w : World) (c1 : Boxed w b1 9 (.string x)) (c2 : Boxed w b2 2 (.int .i64 (k : Int))) :
    SeqStopsK Fence.wide n Try.prog 90 #[.pointer (some ⟨b1, 0, none⟩), .pointer (some ⟨b2, 0, none⟩)] encP (KpA n₀ b1 b2) (fun ys => ys = aps (bl x) k) (fun pre => ∃ t, pre ++ t = aps (bl x) k) (aps (bl x) k).length w := fun l J Jx W hW hA _ hY h0 =>
  aps1_in n hn l b1 b2 n₀ x k h hk1 hk2 J Jx W hA hY ((hW.block b1 c1.lt).trans c1) ((hW.block b2 c2.lt).trans c2) h0

set_option maxHeartbeats 1000000 in
theorem abelianPowersIn_in (n : Nat) (x : ByteArray) (k : Int) (w : World) :
    CallsIn Fence.wide n Try.prog 69 #[.string x, .int .i64 k] w fun e w' => e = .returned (.func (.func 90) #[] #[.pointer (some ⟨w.heap.size, 0, none⟩), .pointer (some ⟨w.heap.size + 1, 0, none⟩)]) ∧ w' = (w.alloc (.cells #[.string x] 9)).alloc (.cells #[.int .i64 k] 2) := by
  refine callsIn_of_wp Try.func69 rfl trivial ?_ rfl
  simp only [Try.ntmps69, List.size_toArray, List.length_cons, List.length_nil, Nat.reduceAdd, Nat.reduceSub, Array.replicate_succ, Array.replicate_zero, List.push_toArray, List.append_toArray, List.nil_append, List.cons_append]
  gi_wp2
  go_ret
  exact ⟨rfl, rfl⟩

set_option maxRecDepth 100000 in
set_option maxHeartbeats 2000000 in
theorem pairsA_in (b1 b2 : Nat) (x : ByteArray) (k : Nat) (w : World) (h : IsW x) (hk1 : 2 ≤ k) (hk2 : k ≤ 60)
    (c1 : Boxed w b1 9 (.string x)) (c2 : Boxed w b2 2 (.int .i64 (k : Int))) :
    CallsIn Fence.wide 4 Try.prog 68 #[.func (.func 90) #[] #[.pointer (some ⟨b1, 0, none⟩), .pointer (some ⟨b2, 0, none⟩)]] w fun e w' =>
      ∃ v, e = .returned v ∧ OwnR w' w.heap.size v (rowsN (aps (bl x) k)) ∧ Below w.heap.size w w' := by
  obtain ⟨i0, hi, hz0, hz1, hz2⟩ := info_parts infoSI
  have hx := h.size
  have HRL := aps_short (l := bl x) k hx
  refine callsIn_of_wp_marks Try.func68 rfl trivial ?_ rfl
  simp only [Try.ntmps68, List.size_toArray, List.length_cons, List.length_nil, Nat.reduceAdd, Nat.reduceSub, Array.replicate_succ, Array.replicate_zero, List.push_toArray, List.append_toArray, List.nil_append, List.cons_append]
  gi_wp2
  have l1 := c1.lt
  have l2 := c2.lt
  have p0 : Boxed (w.alloc (.cells #[.slice none 0 0] 40)) w.heap.size 40 (.slice none 0 0) := Boxed.new w _ _
  have q1 := c1.alloc (.cells #[.slice none 0 0] 40)
  have q2 := c2.alloc (.cells #[.slice none 0 0] 40)
  have hB0 : Below w.heap.size w (w.alloc (.cells #[.slice none 0 0] 40)) := Below.new _ _
  have hs0 : (w.alloc (.cells #[.slice none 0 0] 40)).heap.size = w.heap.size + 1 := by simp
  generalize hW0 : w.alloc (.cells #[.slice none 0 0] 40) = W0 at p0 q1 q2 hB0 hs0 ⊢
  clear hW0
  refine wpIn_rangeFunc_ownG rfl (by decide) (gf := 90) (lb := #[.pointer (some ⟨b1, 0, none⟩), .pointer (some ⟨b2, 0, none⟩)]) rfl trivial (enters_of Try.func90 (by kernel_rfl) rfl)
    (aps_stops 3 (by decide) b1 b2 w.heap.size x k h hk1 hk2 W0 q1 q2) kpA_t (kpA_b (by omega) (by omega) (by omega)) (Below.refl _ _) (fun _ => rfl)
    (fun pre W => ((∃ v, Boxed W w.heap.size 40 v ∧ OwnR W W0.heap.size v (rowsN pre)) ∧ (Boxed W b1 9 (.string x) ∧ Boxed W b2 2 (.int .i64 (k : Int)))) ∧ Below w.heap.size w W)
    (fun _ _ _ => False)
    (OwnFrom.and (OwnFrom.and (fun s W W' row hs hg hr => by
        obtain ⟨v, hv, ho⟩ := hs
        exact ⟨v, hv.kept hg (fun e => by
          obtain ⟨_, o, ho', hc⟩ := hr _ e.symm
          have hs' : W.heap[w.heap.size]? = _ := hv
          rw [hs'] at ho'
          cases ho'
          cases hc), ho.kept hg (fun r e => (hr r e).2)⟩) (OwnFrom.and (Own.from (boxed_own _ _ _) _) (Own.from (boxed_own _ _ _) _))) (ownFrom_below (Nat.le_refl _) (by omega)))
    (fun _ _ _ _ _ hs _ _ => hs)
    ⟨⟨⟨_, p0, OwnR.nil _ _⟩, q1, q2⟩, hB0⟩
    (fun p => { tmps := #[.func (.func 90) #[] #[.pointer (some ⟨b1, 0, none⟩), .pointer (some ⟨b2, 0, none⟩)], undef, .slice none 0 0, .pointer (some ⟨w.heap.size, 0, none⟩), .int .i64 (p.1 : Int), .int .i64 (p.2 : Int), .func (.func 90) #[] #[.pointer (some ⟨b1, 0, none⟩), .pointer (some ⟨b2, 0, none⟩)], .int .i64 (p.1 : Int), .int .i64 (p.2 : Int), undef, undef, undef, undef, undef, undef, undef], defers := [] }) ?assign ?body ?done ?stop
  case assign =>
    intro l p W K hK
    gi_wp2
    exact hK
  case body =>
    rintro l pre ⟨i, q⟩ W ⟨⟨⟨v, hv, us, own, rows⟩, r1, r2⟩, hB⟩ hlt
    have hc := hv.cell
    have hbz := hB.size
    have hv0 := hv.lt
    have hWz : W0.heap.size ≤ W.heap.size := by omega
    have hul := rows.1
    rw [rowsN_len] at hul
    have hu36 : us.length < 3600 := by omega
    have HUL := Lib.hid hul
    have t1 := r1.lt
    have t2 := r2.lt
    clear hul
    have ownA := World.ownsRow.alloc (World.ownsRow.alloc own (.cells #[.int .i64 (i : Int), .int .i64 (q : Int)] 2)) (.cells #[.slice (some ⟨W.heap.size, 0, none⟩) 2 2] 30)
    gi_wp2_with (gi_at_builtin; refine wpListIn_append_own _ rfl _ _ 40 rfl W0.heap.size 30 i0 (.slice none 0 0) 1 24 Try.underlying40 hi hz0 hz1 hz2 rfl (by decide) _ _ _ rfl ownA ⟨W.heap.size + 1, 0, none⟩ 1 1 [.slice (some ⟨W.heap.size, 0, none⟩) 2 2] rfl rfl (cell_new1 _ _ _ _) (by simp [Value.oneCell']) (by unfold maxLen; omega) (by omega) (by simp; omega) ?_; intro v' w2 hown' hgrow _; obtain ⟨g', cap', rfl⟩ := ownsRow_succ hown'; obtain ⟨hv1, hv2, hr2, hk2, hb2, hfr⟩ := appended2 (n₀ := w.heap.size) (hv.alloc (.cells #[.int .i64 (i : Int), .int .i64 (q : Int)] 2)) (by decide) (World.ownsRow.alloc own (.cells #[.int .i64 (i : Int), .int .i64 (q : Int)] 2)) (by omega) (by simp; omega) (by omega) (by omega) hown' hgrow; have hc1 := hv1.cell; have hf1 := hv1.frozen; have hO := (rows_grown own rows hWz hown' hgrow).setBox (b := w.heap.size) (u := .slice (some ⟨g', 0, none⟩) (us.length + 1) cap') (by omega))
    have hfr2 : ∀ b, b < w.heap.size → (w2.setCell ⟨w.heap.size, 0, none⟩ (.slice (some ⟨g', 0, none⟩) (us.length + 1) cap')).heap[b]? = W.heap[b]? := fun b hb => (hfr b (by omega) (by omega)).trans (Below.heap_alloc W _ b (by omega))
    have hb3 := ((Below.refl w.heap.size W).alloc (by omega) (.cells #[.int .i64 (i : Int), .int .i64 (q : Int)] 2)).trans hb2
    refine ⟨((KeepsOthers.alloc W _).trans hk2).from _, ⟨hb3, hfr2 _ l1, hfr2 _ l2⟩, ⟨⟨_, hv2, ?_⟩, (hfr2 _ l1).trans r1, (hfr2 _ l2).trans r2⟩, hB.trans hb3⟩
    rw [rowsN_snoc]
    rw [hs0] at hO
    exact hO
  case done =>
    rintro D ys W hD rfl ⟨⟨⟨v, hv, hown⟩, r1, r2⟩, hB⟩ hK
    have hc := hv.cell
    gi_wp2
    refine ⟨by simp, .inl ⟨_, _, rfl, run_takeDeferred hK, ?_⟩⟩
    exact ⟨_, results_tmp rfl _ _ _, v, rfl, (hown.kept (grownBy_putObj' W D _) (fun r e => by cases e; exact ⟨_, hK, rfl⟩)).base (by omega), hB.trans (belowK_b (w := w) (Nat.le_refl _) W D _ _ (by omega) hK rfl rfl)⟩
  case stop =>
    rintro D c pre W _ _ h _
    exact h.elim

end Go.Proofs.Ytolboinemechpaa
