/- The greatest exponent of a factor: the model. -/
import Derived.Test.YtddfdciohnabbabGePlain
import Derived.Test.YtddfdciohnabbabLoc
import Derived.Test.YtddfdciohnabbabGcd
namespace Go.Proofs.Ytddfdciohnabbab
set_option linter.unusedVariables false
set_option linter.unusedSimpArgs false
open Go.RowKit

theorem ext_get (x : ByteArray) (i m d : Nat) (h : i + m ≤ x.size) (hd : d < m) : (bl (x.extract i (i + m)))[d]? = (bl x)[i + d]? := by
  rw [bl_extract, List.getElem?_take_of_lt (by omega), List.getElem?_drop]
/-- What a test of a period has seen. -/
def PerUp (l : List UInt8) (q t : Nat) : Prop := ∀ d, d < t → d + q < l.length → l[d]? = l[d + q]?
theorem PerUp.start (l : List UInt8) (q : Nat) : PerUp l q 0 := fun d h => by omega
theorem PerUp.succ {l : List UInt8} {q t : Nat} (h : PerUp l q t) (k : l[t]? = l[t + q]?) : PerUp l q (t + 1) := fun d hd hl => by
  by_cases e : d = t
  · subst e; exact k
  · exact h d (by omega) hl
theorem PerUp.done {l : List UInt8} {q t : Nat} (h : PerUp l q t) (ht : l.length ≤ t + q) : Per l q := fun d hd => h d (by omega) hd

set_option maxRecDepth 100000 in
set_option maxHeartbeats 2000000 in
theorem l03Period_any (x : ByteArray) (i m : Nat) (z : Int) (w : World) (hx : x.size ≤ 60) (hm : 0 < m) (him : i + m ≤ x.size) (hz : z = (i : Int) + (m : Int)) :
    Calls Try.prog 165 #[.string x, .int .i64 (i : Int), .int .i64 z] w fun e w' => e = .returned (.int .i64 (lpf x i m : Int)) ∧ Below w.heap.size w w' := by
  have zy : (bl (x.extract i (i + m))).length = m := by rw [bl_len]; simp; omega
  have hne : bl (x.extract i (i + m)) ≠ [] := fun e => by rw [e] at zy; simp at zy; omega
  have EG := fun d (hd : d < m) => ext_get x i m d him hd
  unfold lpf
  generalize bl (x.extract i (i + m)) = l at *
  have HEG := Lib.hid EG
  have HZ := Lib.hid zy
  have HNE := Lib.hid hne
  clear EG zy hne
  subst hz
  go_enter Try.func165, Try.ntmps165
  go_wp2
  go_loopg [7] m (fun g s7 wr => ∃ k : Nat, k + g = m ∧ k < m ∧ s7 = .int .i64 ((k : Int) + 1) ∧ Below w.heap.size w wr ∧ Hid (∀ q, 0 < q → q < k + 1 → ¬ Per l q))
  case atStart => exact ⟨0, by omega, hm, rfl, Below.refl _ _, Lib.hid fun q h2 h3 => by omega⟩
  case round =>
    obtain ⟨k, hk, hkm, rfl, hB, HQ⟩ := hrel
    obtain ⟨g, rfl⟩ : ∃ g, gk = g + 1 := ⟨gk - 1, by omega⟩
    by_cases hp : k + 1 < m
    · have hpi : (k : Int) + 1 < (i : Int) + (m : Int) - (i : Int) := by omega
      go_wp2
      go_loopg [8, 9] (m + 1) (fun g2 s8 s9 wr => ∃ (t : Nat) (good : Bool), t + g2 = m + 1 ∧ t ≤ m ∧ s8 = .bool good ∧ s9 = .int .i64 ((i : Int) + (t : Int)) ∧ Below w.heap.size w wr ∧ Hid (if good = true then PerUp l (k + 1) t else ¬ Per l (k + 1)))
      case atStart => exact ⟨0, true, by omega, by omega, rfl, by simp, hB, Lib.hid (PerUp.start _ _)⟩
      case round =>
        clear hB
        obtain ⟨t, good, ht, htm, rfl, rfl, hB, HU⟩ := hrel
        cases good with
        | false =>
          have HN : Hid (∀ q, 0 < q → q < k + 1 + 1 → ¬ Per l q) := Lib.hid fun q q0 q1 => by
            by_cases e : q = k + 1
            · subst e; exact HU.out
            · exact HQ.out q q0 (by omega)
          by_cases hc2 : (i : Int) + (t : Int) + ((k : Int) + 1) < (i : Int) + (m : Int)
          · go_wp2
            go_roundg g
            case measure => omega
            case rel => exact ⟨k + 1, by omega, by omega, by go_num, hB, HN⟩
          · go_wp2
            go_roundg g
            case measure => omega
            case rel => exact ⟨k + 1, by omega, by omega, by go_num, hB, HN⟩
        | true =>
          have HU2 : Hid (PerUp l (k + 1) t) := Lib.hid (by have := HU.out; simpa using this)
          clear HU
          by_cases hc : t + (k + 1) < m
          · obtain ⟨g2, rfl⟩ : ∃ g2, gk = g2 + 1 := ⟨gk - 1, by omega⟩
            have z1 : i + t < x.size := by omega
            have z2 : i + (t + (k + 1)) < x.size := by omega
            have hle : (x[i + t]'z1).toNat = (x[i + (t + (k + 1))]'z2).toNat ↔ l[t]? = l[t + (k + 1)]? := by
              rw [HEG.out t (by omega), HEG.out (t + (k + 1)) hc]
              exact letter_eq x _ _ z1 z2
            have hix1 : ∀ W, (Instr.index 9 (.string x) (.int .i64 ((i : Int) + (t : Int)))).run Try.prog W = .ok (.int .u8 ((x[i + t]'z1).toNat : Int)) W := fun W => index_at x _ (i + t) z1 (by omega) W
            have hix2 : ∀ W, (Instr.index 9 (.string x) (.int .i64 ((i : Int) + (t : Int) + ((k : Int) + 1)))).run Try.prog W = .ok (.int .u8 ((x[i + (t + (k + 1))]'z2).toNat : Int)) W := fun W => index_at x _ (i + (t + (k + 1))) z2 (by omega) W
            generalize (x[i + t]'z1).toNat = a at hle hix1
            generalize (x[i + (t + (k + 1))]'z2).toNat = b at hle hix2
            have hc2 : (i : Int) + (t : Int) + ((k : Int) + 1) < (i : Int) + (m : Int) := by omega
            by_cases he : a = b
            · have HL := Lib.hid (HU2.out.succ (hle.1 he))
              have hee : (a : Int) = (b : Int) := by omega
              clear hle he
              go_wp2
              go_quiet (fail)
              go_wp2
              go_roundg g2
              case measure => omega
              case rel => exact ⟨t + 1, true, by omega, by omega, by first | rfl | simp [hee], by go_num, hB.drewN _, HL⟩
            · have hee : ¬ (a : Int) = (b : Int) := by omega
              have HN : Hid (¬ Per l (k + 1)) := Lib.hid fun hper => he (hle.2 (hper t (by rw [HZ.out]; exact hc)))
              clear hle he
              go_wp2
              go_quiet (fail)
              go_wp2
              go_roundg g2
              case measure => omega
              case rel => exact ⟨t + 1, false, by omega, by omega, by first | rfl | simp [hee], by go_num, hB.drewN _, Lib.hid (by rw [if_neg (by decide)]; exact HN.out)⟩
          · have hlo : lp l = k + 1 := lp_of ⟨by omega, by rw [HZ.out]; omega, HU2.out.done (by rw [HZ.out]; omega), HQ.out⟩
            have HL := Lib.hid hlo
            have hc2 : ¬ (i : Int) + (t : Int) + ((k : Int) + 1) < (i : Int) + (m : Int) := by omega
            clear hlo
            go_wp2
            go_ret
            exact ⟨by rw [HL.out]; rfl, hB⟩
    · have hkm2 : k + 1 = m := by omega
      have hlo : lp l = m := lp_of ⟨hm, by rw [HZ.out]; exact Nat.le_refl _, by have := per_all l; rwa [HZ.out] at this, fun q q0 q1 => HQ.out q q0 (by omega)⟩
      have HL := Lib.hid hlo
      have hpi : ¬ (k : Int) + 1 < (i : Int) + (m : Int) - (i : Int) := by omega
      clear hlo
      go_wp2
      go_ret
      refine ⟨?_, hB⟩
      rw [HL.out]
      have : (i : Int) + (m : Int) - (i : Int) = (m : Int) := by omega
      first
        | rfl
        | (simp; omega)

end Go.Proofs.Ytddfdciohnabbab
