/- The iterator over the powers of a word: its contract. -/
import Derived.Test.YtkemdiefoohdjabGreatFacIter
import Derived.Test.YtkemdiefoohdjabGreatScopeIn
import Derived.Test.YtkemdiefoohdjabGreatRepPlain
import Derived.Test.YtkemdiefoohdjabGreatSq
import Derived.Test.YtkemdiefoohdjabGreatTailIn
namespace Go.Proofs.YtkemdiefoohdjabGreat
set_option linter.unusedVariables false
set_option linter.unusedSimpArgs false
open Go.RowKit Go.Shelf
attribute [local go_sem] Oper.semAt_some

abbrev encP (p : Nat × Nat) : Array Value := #[.int .i64 (p.1 : Int), .int .i64 (p.2 : Int)]
/-- What a round keeps: whatever lay below n₀; the three boxes. -/
def KpR (n₀ b1 b2 b3 : Nat) (W W' : World) : Prop := Below n₀ W W' ∧ W'.heap[b1]? = W.heap[b1]? ∧ W'.heap[b2]? = W.heap[b2]? ∧ W'.heap[b3]? = W.heap[b3]?
theorem kpR_t {n₀ b1 b2 b3 : Nat} {A B C : World} (h : KpR n₀ b1 b2 b3 A B) (k : KpR n₀ b1 b2 b3 B C) : KpR n₀ b1 b2 b3 A C := ⟨h.1.trans k.1, k.2.1.trans h.2.1, k.2.2.1.trans h.2.2.1, k.2.2.2.trans h.2.2.2⟩
theorem kpR_b {n₀ b1 b2 b3 : Nat} {w : World} (hn : n₀ ≤ w.heap.size) (h1 : b1 < w.heap.size) (h2 : b2 < w.heap.size) (h3 : b3 < w.heap.size) (W : World) (l : Nat) (o o' : Obj) (hl : w.heap.size ≤ l) (h : W.heap[l]? = some o) (hc : o.isCells = false) (hw : o.isWalk = false) : KpR n₀ b1 b2 b3 W (W.putObj l o') := by
  have hlt := (Array.getElem?_eq_some_iff.1 h).1
  exact ⟨belowK_b hn W l o o' hl h hc hw, (grownBy_putObj' W l o').block b1 (by omega) (fun e => by cases e; omega), (grownBy_putObj' W l o').block b2 (by omega) (fun e => by cases e; omega), (grownBy_putObj' W l o').block b3 (by omega) (fun e => by cases e; omega)⟩

set_option maxRecDepth 100000 in
set_option maxHeartbeats 4000000 in
theorem repeats1_in (F : Fence) (n : Nat) (hf : F.fn 58) (hro : F.round = none) (hn : 1 ≤ n) (l b1 b2 b3 n₀ : Nat) (x : ByteArray) (k m : Nat) (hx : x.size ≤ 60) (hk1 : 1 ≤ k) (hk2 : k ≤ 60) (hm : m ≤ 60) (J Jx : List (Nat × Nat) → World → Prop) (W : World) (hA : AbidesFrom W.heap.size J)
    (hY : ∀ pre p W, J pre W → pre.length < (reps (bl x) (eP k m)).length → p ∈ reps (bl x) (eP k m) → YieldAt F (n - 1) Tryz.prog l (encP p) W fun e W' =>
      (e = .returned (.bool true) ∧ J (pre ++ [p]) W' ∧ KpR n₀ b1 b2 b3 W W') ∨ (e = .returned (.bool false) ∧ Jx (pre ++ [p]) W'))
    (c1 : Boxed W b1 9 (.string x)) (c2 : Boxed W b2 2 (.int .i64 (k : Int))) (c3 : Boxed W b3 2 (.int .i64 (m : Int))) (h0 : J [] W) :
    CallsIn F n Tryz.prog 58 #[.func (.yield l) #[] #[], .pointer (some ⟨b1, 0, none⟩), .pointer (some ⟨b2, 0, none⟩), .pointer (some ⟨b3, 0, none⟩)] W fun e W' => (∃ v, e = .returned v) ∧
      ((∃ ys, ys = reps (bl x) (eP k m) ∧ J ys W') ∨ (∃ pre, (∃ t, pre ++ t = reps (bl x) (eP k m)) ∧ Jx pre W')) := by
  obtain ⟨R, hR⟩ : ∃ R, reps (bl x) (eP k m) = R := ⟨_, rfl⟩
  rw [hR] at hY ⊢
  have HR0 : Hid (rall (bl x) (eP k m) 0 x.size = R) := Lib.hid hR
  clear hR
  refine callsIn_of_wp Tryz.func58 rfl hf ?_ hro
  simp only [Tryz.ntmps58, List.size_toArray, List.length_cons, List.length_nil, Nat.reduceAdd, Nat.reduceSub, Array.replicate_succ, Array.replicate_zero, List.push_toArray, List.append_toArray, List.nil_append, List.cons_append]
  have e0 := c1.cell
  gi_wp2
  gi_loopg [12] x.size (fun g s12 wr => ∃ (i : Nat) (pre : List (Nat × Nat)), i + g = x.size ∧ s12 = .int .i64 (i : Int) ∧ J pre wr ∧ Boxed wr b1 9 (.string x) ∧ Boxed wr b2 2 (.int .i64 (k : Int)) ∧ Boxed wr b3 2 (.int .i64 (m : Int)) ∧ Hid (pre ++ rall (bl x) (eP k m) i g = R))
  case atStart => exact ⟨0, [], by omega, rfl, h0, c1, c2, c3, HR0⟩
  case round =>
    obtain ⟨i, pre, hg, rfl, hJ, d1, d2, d3, HR⟩ := hrel
    clear HR0 h0
    by_cases hp : i < x.size
    · obtain ⟨g, rfl⟩ : ∃ g, gk = g + 1 := ⟨gk - 1, by omega⟩
      have HR1 : Hid (pre ++ rrow (bl x) (eP k m) i 1 x.size ++ rall (bl x) (eP k m) (i + 1) g = R) := Lib.hid (by rw [List.append_assoc]; exact HR.out)
      gi_wp2
      refine wpIn_scope_straight ?_
      gi_wp2
      refine wpIn_label ?_
      gi_wp2
      gi_loopg [7] x.size (fun g2 s7 wr => ∃ (q : Nat) (pre : List (Nat × Nat)), 0 < q ∧ q + g2 = x.size + 1 ∧ s7 = .int .i64 (q : Int) ∧ J pre wr ∧ Boxed wr b1 9 (.string x) ∧ Boxed wr b2 2 (.int .i64 (k : Int)) ∧ Boxed wr b3 2 (.int .i64 (m : Int)) ∧ Hid (pre ++ rrow (bl x) (eP k m) i q g2 ++ rall (bl x) (eP k m) (i + 1) g = R))
      case atStart => exact ⟨1, pre, by omega, by omega, rfl, hJ, d1, d2, d3, HR1⟩
      case round =>
        clear hJ d1 d2 d3 HR HR1
        obtain ⟨q, pre2, hq, hg2, rfl, hJ, d1, d2, d3, HR⟩ := hrel
        obtain ⟨P1, hP1⟩ : ∃ P, k * q = P := ⟨_, rfl⟩
        obtain ⟨P2, hP2⟩ : ∃ P, (k - 1) * q = P := ⟨_, rfl⟩
        have hPi : (k : Int) * (q : Int) = (P1 : Int) := by rw [← hP1]; exact (Int.natCast_mul k q).symm
        have hPj : ((k : Int) - 1) * (q : Int) = (P2 : Int) := by rw [← hP2, Int.natCast_mul, show ((k - 1 : Nat) : Int) = (k : Int) - 1 by omega]
        have hPp : P1 = P2 + q := by rw [← hP1, ← hP2, Nat.sub_mul, Nat.one_mul]; have : q ≤ k * q := Nat.le_mul_of_pos_left q (by omega); omega
        have hPl : P1 ≤ 4000 := by rw [← hP1]; exact Nat.le_trans (Nat.mul_le_mul hk2 (show q ≤ 61 by omega)) (by decide)
        have HE : Hid (eP k m q = P2 + m) := Lib.hid (by unfold eP; rw [hP2])
        clear hP1 hP2
        have e1 := d1.cell
        have e2 := d2.cell
        have e3 := d3.cell
        by_cases hc : i + P1 + m ≤ x.size
        · obtain ⟨g2, rfl⟩ : ∃ g2, gk = g2 + 1 := ⟨gk - 1, by omega⟩
          have hP0 : (0 : Int) ≤ (k : Int) * (q : Int) := by omega
          have hP3 : (0 : Int) ≤ ((k : Int) - 1) * (q : Int) := by omega
          have hci : (i : Int) + (P1 : Int) + (m : Int) ≤ (x.size : Int) := by omega
          gi_wp2
          gi_loopg [8] (P2 + m) (fun g3 s8 wr => ∃ j : Nat, j + g3 = P2 + m ∧ s8 = .int .i64 ((i : Int) + (j : Int)) ∧ J pre2 wr ∧ Boxed wr b1 9 (.string x) ∧ Boxed wr b2 2 (.int .i64 (k : Int)) ∧ Boxed wr b3 2 (.int .i64 (m : Int)) ∧ Hid (RepUp (bl x) i q j))
          case atStart => exact ⟨0, by omega, by simp, hJ, d1, d2, d3, Lib.hid (RepUp.start _ _ _)⟩
          case round =>
            clear hJ d1 d2 d3 e1 e2 e3
            obtain ⟨j, hj, rfl, hJ, d1, d2, d3, HU⟩ := hrel
            have e1 := d1.cell
            have e2 := d2.cell
            have e3 := d3.cell
            by_cases hc : j < P2 + m
            · obtain ⟨g3, rfl⟩ : ∃ g3, gk = g3 + 1 := ⟨gk - 1, by omega⟩
              have z1 : i + j < x.size := by omega
              have z2 : i + j + q < x.size := by omega
              have hle := letter_eq x (i + j) (i + j + q) z1 z2
              have hix1 : ∀ W, (Instr.index 9 (.string x) (.int .i64 ((i : Int) + (j : Int)))).run Tryz.prog W = .ok (.int .u8 ((x[i + j]'z1).toNat : Int)) W := fun W => index_at x _ (i + j) z1 (by omega) W
              have hix2 : ∀ W, (Instr.index 9 (.string x) (.int .i64 ((i : Int) + (j : Int) + (q : Int)))).run Tryz.prog W = .ok (.int .u8 ((x[i + j + q]'z2).toNat : Int)) W := fun W => index_at x _ (i + j + q) z2 (by omega) W
              generalize (x[i + j]'z1).toNat = a at hle hix1
              generalize (x[i + j + q]'z2).toNat = b at hle hix2
              have hcc : (i : Int) + (j : Int) < (i : Int) + (P2 : Int) + (m : Int) := by omega
              by_cases he : a = b
              · have HL := Lib.hid (HU.out.succ (hle.1 he))
                have hee : (a : Int) = (b : Int) := by omega
                clear hle he
                gi_wp2
                refine wpIn_region_quiet_lit hro (by kernel_rfl) (by kernel_rfl) ?_
                repeat (gi_big_quiet_step (fail))
                refine wpQuietIn_nil ?_
                intro _ hw'
                obtain ⟨nq, hw''⟩ := hw'
                subst hw''
                have hJd := hA _ _ _ none hJ (⟨rfl, rfl, rfl, Nat.le_refl _, fun _ _ _ => rfl⟩ : wr.grownBy (wr.drewN nq) none) (fun r e => by cases e)
                gi_wp2
                gi_roundg g3
                case measure => omega
                case rel => exact ⟨j + 1, by omega, by go_num, hJd, d1, d2, d3, HL⟩
              · have hee : ¬ (a : Int) = (b : Int) := by omega
                have HN : Hid (pre2 ++ rrow (bl x) (eP k m) i (q + 1) g2 ++ rall (bl x) (eP k m) (i + 1) g = R) := Lib.hid (by
                  have hmi : repB (bl x) i q (eP k m q) = false := by rw [HE.out]; exact rep_miss hc (fun h => he (hle.2 h))
                  rw [← HR.out, rrow_miss hmi])
                clear hle he
                gi_wp2
                refine wpIn_region_quiet_lit hro (by kernel_rfl) (by kernel_rfl) ?_
                repeat (gi_big_quiet_step (fail))
                refine wpQuietIn_nil ?_
                intro _ hw'
                obtain ⟨nq, hw''⟩ := hw'
                subst hw''
                have hJd := hA _ _ _ none hJ (⟨rfl, rfl, rfl, Nat.le_refl _, fun _ _ _ => rfl⟩ : wr.grownBy (wr.drewN nq) none) (fun r e => by cases e)
                gi_wp2
                gi_roundg g2
                case measure => omega
                case rel => exact ⟨q + 1, pre2, by omega, by omega, by go_num, hJd, d1, d2, d3, HN⟩
            · have hcc : ¬ (i : Int) + (j : Int) < (i : Int) + (P2 : Int) + (m : Int) := by omega
              obtain rfl : j = P2 + m := by omega
              have HN : Hid (pre2 ++ [(i, q)] ++ rrow (bl x) (eP k m) i (q + 1) g2 ++ rall (bl x) (eP k m) (i + 1) g = R) := Lib.hid (by
                have hhit : repB (bl x) i q (eP k m q) = true := by rw [HE.out]; exact HU.out.done (by rw [bl_len]; omega)
                rw [← HR.out, rrow_hit hhit]
                simp)
              have hpl : pre2.length < R.length := by
                have h2 := congrArg List.length HN.out
                simp only [List.length_append, List.length_cons, List.length_nil] at h2
                omega
              have hpm : (i, q) ∈ R := by rw [← HN.out]; simp
              obtain ⟨fn, tmps, assign, body, hy, hRd⟩ := hY _ (i, q) wr hJ hpl hpm
              clear hpm
              dsimp only [encP] at hy
              gi_wp2
              refine hRd.mono ?_
              rintro e W3 (⟨rfl, hJ3, hk3⟩ | ⟨rfl, hJx3⟩)
              · gi_wp2
                gi_roundg g2
                case measure => omega
                case rel => exact ⟨q + 1, pre2 ++ [(i, q)], by omega, by omega, by go_num, hJ3, hk3.2.1.trans d1, hk3.2.2.1.trans d2, hk3.2.2.2.trans d3, HN⟩
              · gi_wp2
                rw [Exit.noGoto_ret]
                gi_wp2
                refine bodyPost_ret (results_none rfl _ _ _) rfl ?_
                exact ⟨⟨_, rfl⟩, .inr ⟨_, ⟨rrow (bl x) (eP k m) i (q + 1) g2 ++ rall (bl x) (eP k m) (i + 1) g, by rw [← HN.out]; simp⟩, hJx3⟩⟩
        · have hci : ¬ (i : Int) + (P1 : Int) + (m : Int) ≤ (x.size : Int) := by omega
          have hP0 : (0 : Int) ≤ (k : Int) * (q : Int) := by omega
          have HN : Hid (pre2 ++ rall (bl x) (eP k m) (i + 1) g = R) := Lib.hid (by
            rw [← HR.out, rrow_stop _ (by rw [HE.out, bl_len]; omega), List.append_nil])
          gi_wp2
          gi_roundg g
          case measure => omega
          case rel => exact ⟨i + 1, pre2, by omega, by go_num, hJ, d1, d2, d3, HN⟩
    · obtain rfl : gk = 0 := by omega
      have HV : Hid (pre = R) := Lib.hid (by rw [← HR.out, rall, List.append_nil])
      gi_wp2
      go_end0
      exact ⟨⟨_, rfl⟩, .inl ⟨_, HV.out, hJ⟩⟩

theorem repeats_stops (F : Fence) (n : Nat) (hf : F.fn 58) (hro : F.round = none) (hn : 1 ≤ n) (b1 b2 b3 n₀ : Nat) (x : ByteArray) (k m : Nat) (hx : x.size ≤ 60) (hk1 : 1 ≤ k) (hk2 : k ≤ 60) (hm : m ≤ 60) (w : World)
    (c1 : Boxed w b1 9 (.string x)) (c2 : Boxed w b2 2 (.int .i64 (k : Int))) (c3 : Boxed w b3 2 (.int .i64 (m : Int))) :
    SeqStopsK F n Tryz.prog 58 #[.pointer (some ⟨b1, 0, none⟩), .pointer (some ⟨b2, 0, none⟩), .pointer (some ⟨b3, 0, none⟩)] encP (KpR n₀ b1 b2 b3) (fun ys => ys = reps (bl x) (eP k m)) (fun pre => ∃ t, pre ++ t = reps (bl x) (eP k m)) (reps (bl x) (eP k m)).length w := fun l J Jx W hW hA _ hY h0 =>
  repeats1_in F n hf hro hn l b1 b2 b3 n₀ x k m hx hk1 hk2 hm J Jx W hA (fun pre p W h1 h2 _ => hY pre p W h1 h2) ((hW.block b1 c1.lt).trans c1) ((hW.block b2 c2.lt).trans c2) ((hW.block b3 c3.lt).trans c3) h0

/-- The same, the pairs as members of the list. -/
theorem repeatsS_stops (F : Fence) (n : Nat) (hf : F.fn 58) (hro : F.round = none) (hn : 1 ≤ n) (b1 b2 b3 n₀ : Nat) (x : ByteArray) (k m : Nat) (hx : x.size ≤ 60) (hk1 : 1 ≤ k) (hk2 : k ≤ 60) (hm : m ≤ 60) (w : World)
    (c1 : Boxed w b1 9 (.string x)) (c2 : Boxed w b2 2 (.int .i64 (k : Int))) (c3 : Boxed w b3 2 (.int .i64 (m : Int))) :
    SeqStopsK F n Tryz.prog 58 #[.pointer (some ⟨b1, 0, none⟩), .pointer (some ⟨b2, 0, none⟩), .pointer (some ⟨b3, 0, none⟩)] (fun p : { p : Nat × Nat // p ∈ reps (bl x) (eP k m) } => encP p.1) (KpR n₀ b1 b2 b3) (fun ys => ys.map Subtype.val = reps (bl x) (eP k m)) (fun pre => ∃ t, pre.map Subtype.val ++ t = reps (bl x) (eP k m)) (reps (bl x) (eP k m)).length w := fun l J Jx W hW hA _ hY h0 => by
  refine (repeats1_in F n hf hro hn l b1 b2 b3 n₀ x k m hx hk1 hk2 hm (fun L W => ∃ L' : List { p : Nat × Nat // p ∈ reps (bl x) (eP k m) }, L'.map Subtype.val = L ∧ J L' W) (fun L W => ∃ L' : List { p : Nat × Nat // p ∈ reps (bl x) (eP k m) }, L'.map Subtype.val = L ∧ Jx L' W) W ?_ (fun pre p W hJ hk hp => ?_) ((hW.block b1 c1.lt).trans c1) ((hW.block b2 c2.lt).trans c2) ((hW.block b3 c3.lt).trans c3) ⟨[], rfl, h0⟩).mono ?_
  · rintro L A B row ⟨L', hL, hJ⟩ hg hr
    exact ⟨L', hL, hA _ _ _ _ hJ hg hr⟩
  · obtain ⟨L', hL, hJ⟩ := hJ
    have hl : L'.length = pre.length := by rw [← hL, List.length_map]
    obtain ⟨fn, tmps, assign, body, hy, hR⟩ := hY L' ⟨p, hp⟩ W hJ (by omega)
    refine ⟨fn, tmps, assign, body, hy, hR.mono ?_⟩
    rintro e W3 (⟨he, hJ3, hk3⟩ | ⟨he, hJ3⟩)
    · exact .inl ⟨he, ⟨_, by rw [List.map_append, hL]; rfl, hJ3⟩, hk3⟩
    · exact .inr ⟨he, ⟨_, by rw [List.map_append, hL]; rfl, hJ3⟩⟩
  · rintro e W3 ⟨hv, (⟨ys, rfl, L', hL, hJ⟩ | ⟨pre, ⟨t, ht⟩, L', hL, hJ⟩)⟩
    · exact ⟨hv, .inl ⟨L', hL, hJ⟩⟩
    · exact ⟨hv, .inr ⟨L', ⟨t, by rw [hL]; exact ht⟩, hJ⟩⟩

set_option maxHeartbeats 1000000 in
theorem repeatsIn_in (F : Fence) (n : Nat) (hf : F.fn 34) (hro : F.round = none) (x : ByteArray) (k m : Int) (w : World) :
    CallsIn F n Tryz.prog 34 #[.string x, .int .i64 k, .int .i64 m] w fun e w' => e = .returned (.func (.func 58) #[] #[.pointer (some ⟨w.heap.size, 0, none⟩), .pointer (some ⟨w.heap.size + 1, 0, none⟩), .pointer (some ⟨w.heap.size + 1 + 1, 0, none⟩)]) ∧ w' = ((w.alloc (.cells #[.string x] 9)).alloc (.cells #[.int .i64 k] 2)).alloc (.cells #[.int .i64 m] 2) := by
  refine callsIn_of_wp Tryz.func34 rfl hf ?_ hro
  simp only [Tryz.ntmps34, List.size_toArray, List.length_cons, List.length_nil, Nat.reduceAdd, Nat.reduceSub, Array.replicate_succ, Array.replicate_zero, List.push_toArray, List.append_toArray, List.nil_append, List.cons_append]
  gi_wp2
  go_ret
  exact ⟨rfl, rfl⟩

end Go.Proofs.YtkemdiefoohdjabGreat
