/- Runs: the model. -/
import Derived.Test.YtddfdciohnabbabRunPlain
import Derived.Test.YtddfdciohnabbabGeS
import Derived.Test.YtddfdciohnabbabWords
import Derived.Test.YtddfdciohnabbabPalPlain
import Derived.Deep.LoopGhost
import Derived.Deep.Onto
import Derived.RangeFuncBox
import Derived.BigQuiet
import Derived.Deep.QuietTactic
import Derived.IntWalk
namespace Go.Proofs.Ytddfdciohnabbab
set_option linter.unusedVariables false
set_option linter.unusedSimpArgs false
open Go.RowKit

/-- Runs as cells. -/
def encT (r : Tr) : List Value := [.int .i64 (r.1 : Int), .int .i64 (r.2.1 : Int), .int .i64 (r.2.2 : Int)]
def flatT (L : List Tr) : List Value := L.flatMap encT
theorem flatT_len (L : List Tr) : (flatT L).length = L.length * 3 := by
  induction L with
  | nil => rfl
  | cons a L ih => unfold flatT at *; rw [List.flatMap_cons, List.length_append, ih, List.length_cons]; show 3 + _ = _; omega
theorem flatT_app (a b : List Tr) : flatT (a ++ b) = flatT a ++ flatT b := List.flatMap_append
def OwnT (w : World) (B : Nat) (v : Value) (L : List Tr) : Prop := w.ownsRow B 113 3 v L.length (flatT L)
theorem infoT : (Try.prog.info? 113).map (fun i => (i.zero, i.size, i.bytes)) = some (some (.agg #[.int .i64 0, .int .i64 0, .int .i64 0]), 3, 24) := by kernel_rfl
theorem OwnT.below {w w' : World} {B : Nat} {v : Value} {L : List Tr} (h : OwnT w B v L) (hB : Below w.heap.size w w') : OwnT w' B v L := by
  refine h.kept (row := none) ⟨hB.os, hB.tape, hB.output, hB.size, fun k hk _ => hB.block k hk⟩ ?_
  cases v.ownBlock with
  | none => exact .inl rfl
  | some k => exact .inr (fun e => by cases e)
theorem OwnT.base {w : World} {B B' : Nat} {v : Value} {L : List Tr} (h : OwnT w B v L) (hb : B' ≤ B) : OwnT w B' v L := World.ownsRow.mono h hb
theorem OwnT.nil (w : World) (B : Nat) : OwnT w B (.slice none 0 0) [] := World.ownsRow_nil _ _ _ _
theorem OwnT.lit0 (w : World) {B : Nat} (hb : B ≤ w.heap.size) : OwnT (w.alloc (.cells #[] 113)) B (.slice (some ⟨w.heap.size, 0, none⟩) 0 0) [] := World.ownsRow_lit w #[] 0 hb (by decide) (by simp)
theorem ownT_snoc {w : World} {B : Nat} {v : Value} {L : List Tr} {a b c : Nat} (h : w.ownsRow B 113 3 v (L.length + 1) (flatT L ++ [Value.int .i64 (a : Int), .int .i64 (b : Int), .int .i64 (c : Int)])) : OwnT w B v (L ++ [(a, b, c)]) := by
  unfold OwnT
  rw [List.length_append, flatT_app]
  exact h
theorem cells3_new (w : World) (x y z : Value) (t : TypeId) : ∀ j u, [x, y, z][j]? = some u → (w.alloc (.cells #[x, y, z] t)).cell? ((⟨w.heap.size, 0, none⟩ : Addr).add j) = some u := by
  intro j u hu
  have h := World.alloc_heap_new w (.cells #[x, y, z] t)
  have e : ((⟨w.heap.size, 0, none⟩ : Addr).add j) = ⟨w.heap.size, j, none⟩ := by simp [Addr.add]; omega
  rw [e]
  rcases j with _ | _ | _ | j
  · simp at hu; subst hu; unfold World.cell?; rw [h]; rfl
  · simp at hu; subst hu; unfold World.cell?; rw [h]; rfl
  · simp at hu; subst hu; unfold World.cell?; rw [h]; rfl
  · simp at hu
theorem at_eq {x : ByteArray} {a b : Nat} (ha : a < x.size) (hb : b < x.size) : (bl x)[a]? = (bl x)[b]? ↔ ((x[a]'ha).toNat : Int) = ((x[b]'hb).toNat : Int) := by
  rw [bl_at x a ha, bl_at x b hb]
  constructor
  · intro h; injection h with h; rw [h]
  · intro h; congr 1; exact UInt8.toNat_inj.1 (by omega)

set_option maxRecDepth 100000 in
set_option maxHeartbeats 8000000 in
theorem l03Runs_any (x : ByteArray) (w : World) (hx : x.size ≤ 60) :
    Calls Try.prog 111 #[.string x] w fun e w' => ∃ v, e = .returned v ∧ OwnT w' w.heap.size v (mR x) ∧ Below w.heap.size w w' := by
  obtain ⟨i0, hi, hz0, hz1, hz2⟩ := info_parts infoT
  have HO0 := Lib.hid (OwnT.lit0 w (Nat.le_refl _))
  have HMR : Hid (mTo x x.size = mR x) := Lib.hid rfl
  have HML := Lib.hid (mTo_len x)
  have HRL := Lib.hid (mrow_len x)
  go_enter Try.func111, Try.ntmps111
  go_wp2
  go_loopg [3, 5] x.size (fun gk v s wr => ∃ f : Nat, f + gk = x.size ∧ s = .int .i64 (f : Int) ∧ OwnT wr w.heap.size v (mTo x f) ∧ Below w.heap.size w wr)
  case atStart => exact ⟨0, by omega, rfl, HO0.out, Below.new _ _⟩
  case round =>
    obtain ⟨f, hfg, rfl, own, hB⟩ := hrel
    by_cases hp : f < x.size
    · obtain ⟨g1, rfl⟩ : ∃ j, gk = j + 1 := ⟨gk - 1, by omega⟩
      have hpi : (f : Int) < (x.size : Int) := by omega
      have HTS := Lib.hid (mTo_succ x f)
      go_wp2
      go_loopg [3, 6] (x.size + 1) (fun gk v s wr => ∃ k : Nat, f + 2 + k + gk = x.size + 3 + f ∧ s = .int .i64 ((f + 2 + k : Nat) : Int) ∧ f + 2 + k ≤ x.size + 1 ∧ OwnT wr w.heap.size v (mTo x f ++ mrow x f k) ∧ Below w.heap.size w wr)
      case atStart => exact ⟨0, by omega, by go_num, by omega, by rw [mrow_zero, List.append_nil]; exact own, hB⟩
      case round =>
        clear own hB
        obtain ⟨k, hkg, rfl, hkb, own, hB⟩ := hrel
        have hbz := hB.size
        obtain ⟨t, ht⟩ : ∃ t, f + 2 + k = t := ⟨_, rfl⟩
        rw [ht] at hkb
        rw [ht]
        by_cases hpt : t ≤ x.size
        · obtain ⟨g2, rfl⟩ : ∃ j, gk = j + 1 := ⟨gk - 1, by omega⟩
          have hpti : (t : Int) ≤ (x.size : Int) := by omega
          have CP := Lib.hid fun W => l03Period_any x f (t - f) (t : Int) W hx (by omega) (by omega) (by omega)
          obtain ⟨q0, q1⟩ := lpf_bd (x := x) (i := f) (m := t - f) (by omega) (by omega)
          have HYES : Hid (isRun x f t → mTo x f ++ mrow x f (k + 1) = mTo x f ++ mrow x f k ++ [(f, t, lpf x f (t - f))]) := Lib.hid fun h => by rw [mrow_yes (by rw [ht]; exact h), ht, List.append_assoc]
          have HNO : Hid (¬ isRun x f t → mTo x f ++ mrow x f (k + 1) = mTo x f ++ mrow x f k) := Lib.hid fun h => by rw [mrow_no (by rw [ht]; exact h)]
          have HIS : Hid (isRun x f t ↔ (2 * lpf x f (t - f) ≤ t - f ∧ (f = 0 ∨ (bl x)[f - 1]? ≠ (bl x)[f - 1 + lpf x f (t - f)]?) ∧ (t = x.size ∨ (bl x)[t]? ≠ (bl x)[t - lpf x f (t - f)]?))) := Lib.hid ⟨fun h => h.2.2, fun h => ⟨by omega, hpt, h⟩⟩
          have HLN : Hid ((mTo x f ++ mrow x f k).length ≤ 3720) := Lib.hid (by
            rw [List.length_append]
            have h1 := HML.out f
            have h2 := HRL.out f k
            have h3 : x.size * f ≤ 60 * 60 := Nat.mul_le_mul hx (by omega)
            omega)
          generalize lpf x f (t - f) = q at *
          generalize mTo x f ++ mrow x f k = L at *
          have hll := HLN.out
          have w1 : IntKind.i64.wrap ((t : Int) - (f : Int)) = (t : Int) - (f : Int) := IntWalk.i64_in _ (by omega)
          have w2 : IntKind.i64.wrap (2 * (q : Int)) = 2 * (q : Int) := IntWalk.i64_in _ (by omega)
          have w3 : IntKind.i64.wrap ((f : Int) - 1) = (f : Int) - 1 := IntWalk.i64_in _ (by omega)
          have w4 : IntKind.i64.wrap ((f : Int) - 1 + (q : Int)) = (f : Int) - 1 + (q : Int) := IntWalk.i64_in _ (by omega)
          have w5 : IntKind.i64.wrap ((t : Int) - (q : Int)) = (t : Int) - (q : Int) := IntWalk.i64_in _ (by omega)
          by_cases hA : t - f < 2 * q
          · have hAi : (t : Int) - (f : Int) < 2 * (q : Int) := by omega
            have hAd : decide ((t : Int) - (f : Int) < 2 * (q : Int)) = true := decide_eq_true hAi
            have HE := Lib.hid (HNO.out (fun h => by have := (HIS.out.1 h).1; omega))
            go_wp2_with fail
            refine (CP.out _).mono ?_
            rintro e w2 ⟨rfl, b2⟩
            go_wp2_with fail
            go_quiet (fail)
            go_wp2_with fail
            go_roundg g2
            case measure => omega
            case rel => exact ⟨k + 1, by omega, by go_num, by omega, by rw [HE.out]; exact (own.below b2).below ((Below.refl _ _).drewN nq), (hB.then b2).drewN nq⟩
          have hAi : ¬ (t : Int) - (f : Int) < 2 * (q : Int) := by omega
          have hAd : decide ((t : Int) - (f : Int) < 2 * (q : Int)) = false := decide_eq_false hAi
          by_cases hF : f = 0
          · have hFi : ¬ (0 : Int) < (f : Int) := by omega
            have hFd : decide ((0 : Int) < (f : Int)) = false := decide_eq_false hFi
            have hFe : decide (0 < f) = false := decide_eq_false (by omega)
            have HF := Lib.hid hF
            clear hF
            by_cases hC : t = x.size
            · have hCi : ¬ (t : Int) < (x.size : Int) := by omega
              have hCd : decide ((t : Int) < (x.size : Int)) = false := decide_eq_false hCi
              have hCe : decide (t < x.size) = false := decide_eq_false (by omega)
              have HC := Lib.hid hC
              clear hC
              have HE := Lib.hid (HYES.out (HIS.out.2 ⟨by omega, .inl HF.out, .inl HC.out⟩))
              go_wp2_with fail
              refine (CP.out _).mono ?_
              rintro e w2 ⟨rfl, b2⟩
              have own := own.below b2
              have hB2 := hB.then b2
              have hbz2 := hB2.size
              go_wp2_with fail
              go_quiet (fail)
              have own := own.below ((Below.refl _ _).drewN nq)
              have hB3 := hB2.drewN nq
              have hbz3 := hB3.size
              go_wp2_with (at_builtin; go_loud (refine wpList_append_own _ rfl _ _ 47 rfl w.heap.size 113 i0 (.agg #[.int .i64 0, .int .i64 0, .int .i64 0]) 3 24 Try.underlying47 hi hz0 hz1 hz2 rfl (by decide) _ _ _ rfl (World.ownsRow.alloc own _) ⟨_, 0, none⟩ 1 1 [.int .i64 (f : Int), .int .i64 (t : Int), .int .i64 (q : Int)] rfl rfl (cells3_new _ _ _ _ _) (by intro u hu; simp at hu; rcases hu with rfl | rfl | rfl <;> rfl) (by unfold maxLen; omega) (by omega) (by simp; omega) ?_); intro v' w5 hown' hgrow _)
              have HO := Lib.hid (ownT_snoc hown')
              rw [← HE.out] at HO
              have hB4 : Below w.heap.size w w5 := (hB3.alloc hbz3 _).grown hgrow (by simp; omega) (fun z hz => (own.lt z hz).1)
              go_roundg g2
              case measure => omega
              case rel => exact ⟨k + 1, by omega, by go_num, by omega, HO.out, hB4⟩
            have hCi : (t : Int) < (x.size : Int) := by omega
            have hCd : decide ((t : Int) < (x.size : Int)) = true := decide_eq_true hCi
            have hCe : decide (t < x.size) = true := decide_eq_true (by omega)
            have hCn : t < x.size := by omega
            have x3 := fun W => index_at x (t : Int) t hCn rfl W
            have x4 := fun W => index_at x ((t : Int) - (q : Int)) (t - q) (by omega) (by omega) W
            have heq2 := at_eq (x := x) hCn (show t - q < x.size by omega)
            have hb3 : (x[t]'hCn).toNat ≤ 255 := by have := (x[t]'hCn).toNat_lt; omega
            by_cases hD : (bl x)[t]? = (bl x)[t - q]?
            · have hDi := heq2.1 hD
              have hDb := beq_iff_eq.2 hDi
              have HE := Lib.hid (HNO.out (fun h => by exact (HIS.out.1 h).2.2.elim (fun e => hC e) (fun e => e hD)))
              clear heq2 hD
              generalize x[t]'hCn = c3 at *
              generalize x[t - q]'(by omega) = c4 at *
              go_wp2_with fail
              refine (CP.out _).mono ?_
              rintro e w2 ⟨rfl, b2⟩
              go_wp2_with fail
              go_quiet (fail)
              go_wp2_with fail
              go_roundg g2
              case measure => omega
              case rel => exact ⟨k + 1, by omega, by go_num, by omega, by rw [HE.out]; exact (own.below b2).below ((Below.refl _ _).drewN nq), (hB.then b2).drewN nq⟩
            · have hDi := fun e => hD (heq2.2 e)
              have hDb := beq_eq_false_iff_ne.2 hDi
              have HE := Lib.hid (HYES.out (HIS.out.2 ⟨by omega, .inl HF.out, .inr hD⟩))
              clear heq2 hD
              generalize x[t]'hCn = c3 at *
              generalize x[t - q]'(by omega) = c4 at *
              go_wp2_with fail
              refine (CP.out _).mono ?_
              rintro e w2 ⟨rfl, b2⟩
              have own := own.below b2
              have hB2 := hB.then b2
              have hbz2 := hB2.size
              go_wp2_with fail
              go_quiet (fail)
              have own := own.below ((Below.refl _ _).drewN nq)
              have hB3 := hB2.drewN nq
              have hbz3 := hB3.size
              go_wp2_with (at_builtin; go_loud (refine wpList_append_own _ rfl _ _ 47 rfl w.heap.size 113 i0 (.agg #[.int .i64 0, .int .i64 0, .int .i64 0]) 3 24 Try.underlying47 hi hz0 hz1 hz2 rfl (by decide) _ _ _ rfl (World.ownsRow.alloc own _) ⟨_, 0, none⟩ 1 1 [.int .i64 (f : Int), .int .i64 (t : Int), .int .i64 (q : Int)] rfl rfl (cells3_new _ _ _ _ _) (by intro u hu; simp at hu; rcases hu with rfl | rfl | rfl <;> rfl) (by unfold maxLen; omega) (by omega) (by simp; omega) ?_); intro v' w5 hown' hgrow _)
              have HO := Lib.hid (ownT_snoc hown')
              rw [← HE.out] at HO
              have hB4 : Below w.heap.size w w5 := (hB3.alloc hbz3 _).grown hgrow (by simp; omega) (fun z hz => (own.lt z hz).1)
              go_roundg g2
              case measure => omega
              case rel => exact ⟨k + 1, by omega, by go_num, by omega, HO.out, hB4⟩
          have hFi : (0 : Int) < (f : Int) := by omega
          have hFd : decide ((0 : Int) < (f : Int)) = true := decide_eq_true hFi
          have hFe : decide (0 < f) = true := decide_eq_true (by omega)
          have x1 := fun W => index_at x ((f : Int) - 1) (f - 1) (by omega) (by omega) W
          have x2 := fun W => index_at x ((f : Int) - 1 + (q : Int)) (f - 1 + q) (by omega) (by omega) W
          have heq1 := at_eq (x := x) (show f - 1 < x.size by omega) (show f - 1 + q < x.size by omega)
          by_cases hE : (bl x)[f - 1]? = (bl x)[f - 1 + q]?
          · have hEi := heq1.1 hE
            have hEb := beq_iff_eq.2 hEi
            have HE := Lib.hid (HNO.out (fun h => (HIS.out.1 h).2.1.elim (fun e => hF e) (fun e => e hE)))
            clear heq1 hE
            generalize x[f - 1]'(by omega) = c1 at *
            generalize x[f - 1 + q]'(by omega) = c2 at *
            go_wp2_with fail
            refine (CP.out _).mono ?_
            rintro e w2 ⟨rfl, b2⟩
            go_wp2_with fail
            go_quiet (fail)
            go_wp2_with fail
            go_roundg g2
            case measure => omega
            case rel => exact ⟨k + 1, by omega, by go_num, by omega, by rw [HE.out]; exact (own.below b2).below ((Below.refl _ _).drewN nq), (hB.then b2).drewN nq⟩
          have hEi := fun e => hE (heq1.2 e)
          have hEb := beq_eq_false_iff_ne.2 hEi
          have hlf : f = 0 ∨ (bl x)[f - 1]? ≠ (bl x)[f - 1 + q]? := .inr hE
          have HLF := Lib.hid hlf
          clear heq1 hE hlf
          generalize x[f - 1]'(by omega) = c1 at *
          generalize x[f - 1 + q]'(by omega) = c2 at *
          by_cases hC : t = x.size
          · have hCi : ¬ (t : Int) < (x.size : Int) := by omega
            have hCd : decide ((t : Int) < (x.size : Int)) = false := decide_eq_false hCi
            have hCe : decide (t < x.size) = false := decide_eq_false (by omega)
            have HC := Lib.hid hC
            clear hC
            have HE := Lib.hid (HYES.out (HIS.out.2 ⟨by omega, HLF.out, .inl HC.out⟩))
            go_wp2_with fail
            refine (CP.out _).mono ?_
            rintro e w2 ⟨rfl, b2⟩
            have own := own.below b2
            have hB2 := hB.then b2
            have hbz2 := hB2.size
            go_wp2_with fail
            go_quiet (fail)
            have own := own.below ((Below.refl _ _).drewN nq)
            have hB3 := hB2.drewN nq
            have hbz3 := hB3.size
            go_wp2_with (at_builtin; go_loud (refine wpList_append_own _ rfl _ _ 47 rfl w.heap.size 113 i0 (.agg #[.int .i64 0, .int .i64 0, .int .i64 0]) 3 24 Try.underlying47 hi hz0 hz1 hz2 rfl (by decide) _ _ _ rfl (World.ownsRow.alloc own _) ⟨_, 0, none⟩ 1 1 [.int .i64 (f : Int), .int .i64 (t : Int), .int .i64 (q : Int)] rfl rfl (cells3_new _ _ _ _ _) (by intro u hu; simp at hu; rcases hu with rfl | rfl | rfl <;> rfl) (by unfold maxLen; omega) (by omega) (by simp; omega) ?_); intro v' w5 hown' hgrow _)
            have HO := Lib.hid (ownT_snoc hown')
            rw [← HE.out] at HO
            have hB4 : Below w.heap.size w w5 := (hB3.alloc hbz3 _).grown hgrow (by simp; omega) (fun z hz => (own.lt z hz).1)
            go_roundg g2
            case measure => omega
            case rel => exact ⟨k + 1, by omega, by go_num, by omega, HO.out, hB4⟩
          have hCi : (t : Int) < (x.size : Int) := by omega
          have hCd : decide ((t : Int) < (x.size : Int)) = true := decide_eq_true hCi
          have hCe : decide (t < x.size) = true := decide_eq_true (by omega)
          have hCn : t < x.size := by omega
          have x3 := fun W => index_at x (t : Int) t hCn rfl W
          have x4 := fun W => index_at x ((t : Int) - (q : Int)) (t - q) (by omega) (by omega) W
          have heq2 := at_eq (x := x) hCn (show t - q < x.size by omega)
          have hb3 : (x[t]'hCn).toNat ≤ 255 := by have := (x[t]'hCn).toNat_lt; omega
          by_cases hD : (bl x)[t]? = (bl x)[t - q]?
          · have hDi := heq2.1 hD
            have hDb := beq_iff_eq.2 hDi
            have HE := Lib.hid (HNO.out (fun h => by exact (HIS.out.1 h).2.2.elim (fun e => hC e) (fun e => e hD)))
            clear heq2 hD
            generalize x[t]'hCn = c3 at *
            generalize x[t - q]'(by omega) = c4 at *
            go_wp2_with fail
            refine (CP.out _).mono ?_
            rintro e w2 ⟨rfl, b2⟩
            go_wp2_with fail
            go_quiet (fail)
            go_wp2_with fail
            go_roundg g2
            case measure => omega
            case rel => exact ⟨k + 1, by omega, by go_num, by omega, by rw [HE.out]; exact (own.below b2).below ((Below.refl _ _).drewN nq), (hB.then b2).drewN nq⟩
          · have hDi := fun e => hD (heq2.2 e)
            have hDb := beq_eq_false_iff_ne.2 hDi
            have HE := Lib.hid (HYES.out (HIS.out.2 ⟨by omega, HLF.out, .inr hD⟩))
            clear heq2 hD
            generalize x[t]'hCn = c3 at *
            generalize x[t - q]'(by omega) = c4 at *
            go_wp2_with fail
            refine (CP.out _).mono ?_
            rintro e w2 ⟨rfl, b2⟩
            have own := own.below b2
            have hB2 := hB.then b2
            have hbz2 := hB2.size
            go_wp2_with fail
            go_quiet (fail)
            have own := own.below ((Below.refl _ _).drewN nq)
            have hB3 := hB2.drewN nq
            have hbz3 := hB3.size
            go_wp2_with (at_builtin; go_loud (refine wpList_append_own _ rfl _ _ 47 rfl w.heap.size 113 i0 (.agg #[.int .i64 0, .int .i64 0, .int .i64 0]) 3 24 Try.underlying47 hi hz0 hz1 hz2 rfl (by decide) _ _ _ rfl (World.ownsRow.alloc own _) ⟨_, 0, none⟩ 1 1 [.int .i64 (f : Int), .int .i64 (t : Int), .int .i64 (q : Int)] rfl rfl (cells3_new _ _ _ _ _) (by intro u hu; simp at hu; rcases hu with rfl | rfl | rfl <;> rfl) (by unfold maxLen; omega) (by omega) (by simp; omega) ?_); intro v' w5 hown' hgrow _)
            have HO := Lib.hid (ownT_snoc hown')
            rw [← HE.out] at HO
            have hB4 : Below w.heap.size w w5 := (hB3.alloc hbz3 _).grown hgrow (by simp; omega) (fun z hz => (own.lt z hz).1)
            go_roundg g2
            case measure => omega
            case rel => exact ⟨k + 1, by omega, by go_num, by omega, HO.out, hB4⟩
        · have hpti : ¬ (t : Int) ≤ (x.size : Int) := by omega
          have HE : Hid (mTo x (f + 1) = mTo x f ++ mrow x f k) := Lib.hid (by
            rw [HTS.out]
            by_cases h : x.size - 1 - f = k
            · rw [h]
            · exfalso; omega)
          go_wp2
          go_roundg g1
          case measure => omega
          case rel => exact ⟨f + 1, by omega, by go_num, by rw [HE.out]; exact own, hB⟩
    · obtain rfl : gk = 0 := by omega
      obtain rfl : f = x.size := by omega
      have hpi : ¬ (x.size : Int) < (x.size : Int) := by omega
      have HO := Lib.hid own
      clear own
      go_wp2
      go_ret
      exact ⟨_, rfl, by rw [← HMR.out]; exact HO.out, hB⟩

set_option maxRecDepth 100000 in
theorem spec_RunsOf (x : ByteArray) (w : World) (sx : x.size ≤ maxLen) :
    Calls Try.prog 35 #[.string x] w fun e w' => ∃ v, e = .returned (.tuple #[v, .int .i64 (runsR x).2]) ∧ OwnT w' w.heap.size v (runsR x).1 ∧ Below w.heap.size w w' := by
  by_cases h : IsW x
  · rw [runsR_ok h]
    have CI := Lib.hid fun W => l01Is_yes x W h
    have CR := Lib.hid fun W => l03Runs_any x W h.size
    clear h
    go_enter Try.func35, Try.ntmps35
    go_wp2_with fail
    refine (CI.out _).mono ?_
    rintro e w1 ⟨rfl, b1⟩
    go_wp2_with fail
    refine (CR.out _).mono ?_
    rintro e w2 ⟨v, rfl, o2, b2⟩
    go_wp2_with fail
    go_ret2
    exact ⟨v, rfl, o2.base b1.size, b1.then b2⟩
  · rw [runsR_bad h]
    have CI := Lib.hid fun W => l01Is_no x W sx h
    clear h
    go_enter Try.func35, Try.ntmps35
    go_wp2_with fail
    refine (CI.out _).mono ?_
    rintro e w1 ⟨rfl, b1⟩
    go_wp2_with fail
    go_ret2
    exact ⟨_, rfl, OwnT.nil _ _, b1⟩

end Go.Proofs.Ytddfdciohnabbab
