/- Letters that grow: the program. -/
import Derived.Test.YtolboinemechpabVec
import Derived.Test.YtolboinemechpabGrPlain
import Derived.Test.YtolboinemechpabShelf
import Derived.Test.YtolboinemechpabLib
import Derived.Test.YtolboinemechpabIsLet
import Derived.Test.YtolboinemechpabWordsPlain
import Derived.Test.YtolboinemechpabPerPlain
import Derived.BigQuiet
import Derived.Deep.QuietTactic
namespace Go.Proofs.Ytolboinemechpab
set_option linter.unusedVariables false
set_option linter.unusedSimpArgs false
open Go.RowKit

theorem pre_one (z : List UInt8) (c : UInt8) : (Lib.hasPrefix z [c] = true) ↔ ∃ u, z = c :: u := by
  cases z with
  | nil => simp [Lib.hasPrefix]
  | cons d z => simp [Lib.hasPrefix]; exact eq_comm
/-- The iterates of what stands behind are not empty, up to k. -/
def aliveTo (I : List (List UInt8)) (u : List UInt8) (k : Nat) : Prop := ∀ i, i < k → hk I i u ≠ []
theorem aliveTo.succ {I : List (List UInt8)} {u : List UInt8} {k : Nat} (h : aliveTo I u k) (e : hk I k u ≠ []) : aliveTo I u (k + 1) := fun i hi => by
  by_cases e2 : i = k
  · rw [e2]; exact e
  · exact h i (by omega)
theorem same_iff {I : List (List UInt8)} (g : Mor I) {a : UInt8} (ha : lets I [a]) {u : List UInt8} (hu : img I a = a :: u) (k : Nat) :
    (∀ j, j < 5 → ct (hk I (k + 1) [a]) j = ct (hk I k [a]) j) ↔ hk I k u = [] := by
  have hlu : lets I u := fun c hc => by
    have h1 := hk_lets g 1 ha
    rw [hk_succ, hk_zero, show imgOf I [a] = img I a from by unfold imgOf; simp, hu] at h1
    exact h1 c (List.mem_cons_of_mem _ hc)
  rw [hk_cons hu]
  constructor
  · intro h; exact ct_same g (hk_lets g k hlu) h
  · intro h j _; rw [h, List.append_nil]

set_option maxRecDepth 100000 in
set_option maxHeartbeats 4000000 in
theorem growsLetter_any (B : Nat) (v : Value) (I : List (List UInt8)) (q : Nat) (R : Bool) (w : World) (h : OwnS w B v (I.map bt)) (g : Mor I) (hq : q < I.length) (hR : R = true ↔ gw I q) :
    Calls Try.prog 93 #[.agg #[v], .int .i64 (q : Int)] w fun e w' => e = .returned (.bool R) ∧ Below w.heap.size w w' := by
  have h1 := g.len1
  have h5 := g.len5
  obtain ⟨p, cap, rfl, hg, hc, cell⟩ := h.rowM (by omega)
  have BN : Below w.heap.size w (w.alloc (.cells #[.slice (some ⟨p, 0, none⟩) I.length cap] 53)) := Below.new _ _
  have QN : Boxed (w.alloc (.cells #[.slice (some ⟨p, 0, none⟩) I.length cap] 53)) w.heap.size 53 (.slice (some ⟨p, 0, none⟩) I.length cap) := Boxed.new _ _ _
  have hz12 : (bt (I[q]'hq)).size ≤ 12 := (g.im q hq).1
  have hq5 : q < 5 := by omega
  have hqc : q < cap := by omega
  have he := encode_letter q (by omega)
  have hlq : (lt1 q) = bt [letr q] := bl_inj rfl
  have hcv : ∀ W, (convert 21 9 (.int .i32 (97 + (q : Int)))).run Try.prog W = .ok (.string (lt1 q)) W := fun W => by
    rw [run_convert_int_string W _ _ _ _ (by rw [Try.underlying21]; rfl) Try.underlying9, he]
  have kc : (w.alloc (.cells #[.slice (some ⟨p, 0, none⟩) I.length cap] 53)).cell? ⟨p, q, none⟩ = some (.string (bt (I[q]'hq))) := by rw [(bcell BN).1 p q hg]; exact cell q hq
  have CL := Lib.hid fun W => letterOfM_any q W (by omega)
  have CP := fun W => Try.strings_HasPrefix (bt (I[q]'hq)) (lt1 q) W
  rw [show (bt (I[q]'hq)).data.toList = I[q]'hq from lt_bt _, show (lt1 q).data.toList = [letr q] from by rw [hlq]; exact lt_bt _] at CP
  have hgd : I[q]'hq = img I (letr q) := by rw [img_getD g hq]; simp [List.getD_eq_getElem?_getD, hq]
  have hqi : (q : Int) < (I.length : Int) := by omega
  have hq0 : (0 : Int) ≤ (q : Int) := by omega
  by_cases hpr : Lib.hasPrefix (I[q]'hq) [letr q] = true
  · rw [hpr] at CP
    obtain ⟨u, hu⟩ := (pre_one _ _).1 hpr
    have hui : img I (letr q) = letr q :: u := by rw [← hgd]; exact hu
    have ha := lets_one g hq
    have hgw : gw I q ↔ growsI I u := ⟨fun ⟨u', e1, e2⟩ => by rw [hui] at e1; cases e1; exact e2, fun e => ⟨u, hui, e⟩⟩
    rw [hgw] at hR
    have c4 := fun W h i (hi : i ≤ 16) => counts_any B (.slice (some ⟨p, 0, none⟩) I.length cap) I (ct (hk I i [letr q])) W h g (fun j _ => acc_le g ha hi j)
    have hee : ∀ i, (fun j => acc I (ct (hk I i [letr q])) j I.length) = ct (hk I (i + 1) [letr q]) := fun i => funext fun j => acc_hk g ha i j
    simp only [hee] at c4
    have SM := Lib.hid (same_iff g ha hui)
    have C3 := Lib.hid (fun W => oneLetter_any q (by omega) W)
    have C4 := Lib.hid c4
    have HR := Lib.hid hR
    have H := Lib.hid (h.below BN)
    have HQN := Lib.hid QN
    have HBN := Lib.hid BN
    clear h cell g hR hgw hui hu hgd c4 hee ha QN BN he hlq hpr
    generalize bt (I[q]'hq) = z at *
    generalize lt1 q = t1 at *
    go_enter Try.func93, Try.ntmps93
    go_wp2
    go_quiet (first | (go_at_call 98; exact Calls.quiet_of_same ((CL.out _).mono (by rintro e w' ⟨rfl, rfl⟩; exact ⟨rfl, rfl⟩))) | (go_at_call 97; exact Calls.quiet_of_same (CP _)))
    go_wp2_with fail
    refine (C3.out _).mono ?_
    rintro e w3 ⟨rfl, b3⟩
    have B3 : Below w.heap.size w w3 := (HBN.out.drewN _).then b3
    have Q3 : Boxed w3 w.heap.size 53 (.slice (some ⟨p, 0, none⟩) I.length cap) := boxed_later (W := (w.alloc (.cells #[.slice (some ⟨p, 0, none⟩) I.length cap] 53)).drewN nq) HQN.out b3
    have S3 := Lib.hid (OwnS.below (w := (w.alloc (.cells #[.slice (some ⟨p, 0, none⟩) I.length cap] 53)).drewN nq) H.out b3)
    have hz3 := B3.size
    have hq3 := Q3.lt
    have kq := Q3.cell
    rw [show ct [letr q] = ct (hk I 0 [letr q]) from rfl]
    clear b3 HBN HQN H
    go_wp2_with fail
    go_loopw [22] (fun t wr => ∃ i : Nat, i ≤ I.length ∧ t = .int .i64 (i : Int) ∧ Arr5 wr w3.heap.size (ct (hk I i [letr q])) ∧ aliveTo I u i ∧ Below w3.heap.size w3 wr) (fun t _ => I.length - (intOf t).toNat)
    case atStart => exact ⟨0, Nat.zero_le _, rfl, Arr5.new _ _, fun i hi => by omega, Below.new _ _⟩
    case round =>
      clear kq
      obtain ⟨i, hi, rfl, a1, hal, hB⟩ := hrel
      have hbw := hB.size
      by_cases hp : i < I.length
      · have kq := (boxed_later Q3 hB).cell
        have hii : (i : Int) < (I.length : Int) := by omega
        have k0 := a1.cell 0 (by omega)
        have k1 := a1.cell 1 (by omega)
        have k2 := a1.cell 2 (by omega)
        have k3 := a1.cell 3 (by omega)
        have k4 := a1.cell 4 (by omega)
        have c5 := C4.out wr (S3.out.below hB) i (by omega)
        have EQ := fun W => eq5_run W (ct (hk I (i + 1) [letr q]) 0 : Int) (ct (hk I (i + 1) [letr q]) 1) (ct (hk I (i + 1) [letr q]) 2) (ct (hk I (i + 1) [letr q]) 3) (ct (hk I (i + 1) [letr q]) 4) (ct (hk I i [letr q]) 0) (ct (hk I i [letr q]) 1) (ct (hk I i [letr q]) 2) (ct (hk I i [letr q]) 3) (ct (hk I i [letr q]) 4)
        obtain ⟨b, hb⟩ : ∃ b, decide ((ct (hk I (i + 1) [letr q]) 0 : Int) = ct (hk I i [letr q]) 0 ∧ (ct (hk I (i + 1) [letr q]) 1 : Int) = ct (hk I i [letr q]) 1 ∧ (ct (hk I (i + 1) [letr q]) 2 : Int) = ct (hk I i [letr q]) 2 ∧ (ct (hk I (i + 1) [letr q]) 3 : Int) = ct (hk I i [letr q]) 3 ∧ (ct (hk I (i + 1) [letr q]) 4 : Int) = ct (hk I i [letr q]) 4) = b := ⟨_, rfl⟩
        rw [hb] at EQ
        have hb2 : b = true ↔ hk I i u = [] := by
          rw [← SM.out i, ← hb, decide_eq_true_eq]
          constructor
          · rintro ⟨e0, e1, e2, e3, e4⟩ j hj
            rcases (show j = 0 ∨ j = 1 ∨ j = 2 ∨ j = 3 ∨ j = 4 by omega) with rfl | rfl | rfl | rfl | rfl <;> omega
          · intro e
            have e0 := e 0 (by omega)
            have e1 := e 1 (by omega)
            have e2 := e 2 (by omega)
            have e3 := e 3 (by omega)
            have e4 := e 4 (by omega)
            omega
        have C5 := Lib.hid c5
        have A1 := Lib.hid a1
        have HB2 := Lib.hid hb2
        clear hb hb2 c5 a1
        obtain ⟨f1, hf1⟩ : ∃ f1, ct (hk I (i + 1) [letr q]) = f1 := ⟨_, rfl⟩
        rw [hf1] at C5 EQ
        have HF1 := Lib.hid hf1
        clear hf1
        generalize ct (hk I i [letr q]) = f0 at *
        go_wp2_with fail
        refine C5.out.mono ?_
        rintro e w5 ⟨rfl, b5⟩
        have a5 := A1.out.later b5
        have B5 := hB.then b5
        have hz5 := B5.size
        have h35 := a5.lt
        have m0 := a5.cell 0 (by omega)
        have m1 := a5.cell 1 (by omega)
        have m2 := a5.cell 2 (by omega)
        have m3 := a5.cell 3 (by omega)
        have m4 := a5.cell 4 (by omega)
        have hne : w3.heap.size ≠ w5.heap.size := by omega
        clear k0 k1 k2 k3 k4
        cases b with
        | true =>
          have HF : Hid (R = false) := Lib.hid (by
            apply Bool.eq_false_iff.2
            intro e
            exact HR.out.1 e i hp (HB2.out.1 rfl))
          go_wp2_with fail
          go_ret
          exact ⟨by rw [HF.out]; rfl, (B3.then B5).alloc (by omega) _⟩
        | false =>
          have hal2 := hal.succ (fun e => Bool.false_ne_true (HB2.out.2 e))
          have a6 := a5.later (Below.new w5 (.cells #[.int .i64 (f1 0 : Int), .int .i64 (f1 1 : Int), .int .i64 (f1 2 : Int), .int .i64 (f1 3 : Int), .int .i64 (f1 4 : Int)] 80))
          have B6 := B5.alloc (Nat.le_trans (Nat.le_refl _) hz5) (.cells #[.int .i64 (f1 0 : Int), .int .i64 (f1 1 : Int), .int .i64 (f1 2 : Int), .int .i64 (f1 3 : Int), .int .i64 (f1 4 : Int)] 80)
          have r0 := a5.frozen 0
          have r1 := a5.frozen 1
          have r2 := a5.frozen 2
          have r3 := a5.frozen 3
          have r4 := a5.frozen 4
          have s0 := a6.frozen 0
          have s1 := a6.frozen 1
          have s2 := a6.frozen 2
          have s3 := a6.frozen 3
          have s4 := a6.frozen 4
          have u0 := a6.cell 0 (by omega)
          have u1 := a6.cell 1 (by omega)
          have u2 := a6.cell 2 (by omega)
          have u3 := a6.cell 3 (by omega)
          have u4 := a6.cell 4 (by omega)
          have A7 := Lib.hid (((((((a5.set 0 (by omega) (f1 0)).set 1 (by omega) (f1 1)).set 2 (by omega) (f1 2)).set 3 (by omega) (f1 3)).set 4 (by omega) (f1 4)).congr (g := f1) fun j hj => by
            rcases (show j = 0 ∨ j = 1 ∨ j = 2 ∨ j = 3 ∨ j = 4 by omega) with rfl | rfl | rfl | rfl | rfl <;> rfl).later (Below.new _ (.cells #[.int .i64 (f1 0 : Int), .int .i64 (f1 1 : Int), .int .i64 (f1 2 : Int), .int .i64 (f1 3 : Int), .int .i64 (f1 4 : Int)] 80)))
          have b7 := ((((B5.setCell (p := ⟨w3.heap.size, 0, none⟩) (Nat.le_refl _) (.int .i64 (f1 0 : Int))).setCell (p := ⟨w3.heap.size, 1, none⟩) (Nat.le_refl _) (.int .i64 (f1 1 : Int))).setCell (p := ⟨w3.heap.size, 2, none⟩) (Nat.le_refl _) (.int .i64 (f1 2 : Int))).setCell (p := ⟨w3.heap.size, 3, none⟩) (Nat.le_refl _) (.int .i64 (f1 3 : Int))).setCell (p := ⟨w3.heap.size, 4, none⟩) (Nat.le_refl _) (.int .i64 (f1 4 : Int))
          have B7 := Lib.hid (b7.alloc b7.size (.cells #[.int .i64 (f1 0 : Int), .int .i64 (f1 1 : Int), .int .i64 (f1 2 : Int), .int .i64 (f1 3 : Int), .int .i64 (f1 4 : Int)] 80))
          clear b7
          clear a5 a6 B5 B6 hal
          go_wp2_with fail
          refine ⟨⟨i + 1, by omega, by go_num, ?_, hal2, B7.out⟩, by simp [intOf]; omega⟩
          rw [HF1.out]
          exact A7.out
      · obtain rfl : i = I.length := by omega
        have HT : Hid (R = true) := Lib.hid (HR.out.2 hal)
        go_wp2_with fail
        go_ret
        exact ⟨by rw [HT.out]; rfl, B3.then hB⟩
  · have hpf : Lib.hasPrefix (I[q]'hq) [letr q] = false := Bool.eq_false_iff.2 hpr
    rw [hpf] at CP
    have HR : Hid (R = false) := Lib.hid (by
      apply Bool.eq_false_iff.2
      intro e
      obtain ⟨u, h1, _⟩ := hR.1 e
      exact hpr ((pre_one _ _).2 ⟨u, by rw [hgd]; exact h1⟩))
    have HBN := Lib.hid BN
    clear h cell g hR hgd hpr hpf QN BN he hlq
    generalize bt (I[q]'hq) = z at *
    generalize lt1 q = t1 at *
    go_enter Try.func93, Try.ntmps93
    go_wp2
    go_quiet (first | (go_at_call 98; exact Calls.quiet_of_same ((CL.out _).mono (by rintro e w' ⟨rfl, rfl⟩; exact ⟨rfl, rfl⟩))) | (go_at_call 97; exact Calls.quiet_of_same (CP _)))
    go_wp2_with fail
    go_ret
    exact ⟨by rw [HR.out]; rfl, HBN.out.drewN _⟩

end Go.Proofs.Ytolboinemechpab
