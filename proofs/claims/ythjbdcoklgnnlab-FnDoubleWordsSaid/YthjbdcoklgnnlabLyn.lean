/- Words that are less than their rests: the model's test. -/
import Derived.Test.YthjbdcoklgnnlabRoot
import Derived.Test.YthjbdcoklgnnlabLexPlain
import Derived.Sort.Walk0
import Derived.WalkLawsBesides
import Derived.Deep.LoopGhost
namespace Go.Proofs.Ythjbdcoklgnnlab
set_option linter.unusedVariables false
set_option linter.unusedSimpArgs false
open Go.RowKit

open Classical in
noncomputable def lynB (l : List UInt8) : Bool := decide (Lyn l)
theorem lynB_yes {l : List UInt8} (h : Lyn l) : lynB l = true := by unfold lynB; exact @decide_eq_true _ (_) h
theorem lynB_no {l : List UInt8} (h : ¬ Lyn l) : lynB l = false := by unfold lynB; exact @decide_eq_false _ (_) h

theorem less_yes {a b : ByteArray} (h : bl a < bl b) : Op.bytesLess a.toList b.toList = true := by rw [Proofs.bytesLess_eq, ByteArray.toList_eq, ByteArray.toList_eq]; exact decide_eq_true h
theorem less_no {a b : ByteArray} (h : ¬ bl a < bl b) : Op.bytesLess a.toList b.toList = false := by rw [Proofs.bytesLess_eq, ByteArray.toList_eq, ByteArray.toList_eq]; exact decide_eq_false h

set_option maxRecDepth 100000 in
set_option maxHeartbeats 1000000 in
theorem l02Lyndon_any (x : ByteArray) (w : World) (hx : x.size ≤ 60) :
    Calls Try.prog 118 #[.string x] w fun e w' => e = .returned (.bool (lynB (bl x))) ∧ Below w.heap.size w w' := by
  go_enter Try.func118, Try.ntmps118
  go_wp2
  go_loopg [3] (x.size + 1) (fun g i wr => ∃ k : Nat, k + g = x.size + 1 ∧ i = .int .i64 ((k : Int) + 1) ∧ Below w.heap.size w wr ∧ Hid (∀ q, 0 < q → q < k + 1 → q < x.size → bl x < (bl x).drop q))
  case atStart => exact ⟨0, by omega, rfl, Below.refl _ _, Lib.hid fun q h2 h3 _ => by omega⟩
  case round =>
    obtain ⟨k, hk, rfl, hB, HQ⟩ := hrel
    by_cases hp : k + 1 < x.size
    · obtain ⟨g, rfl⟩ : ∃ g, gk = g + 1 := ⟨gk - 1, by omega⟩
      have hne : bl x ≠ (bl x).drop (k + 1) := fun e => by have := congrArg List.length e; rw [List.length_drop, bl_len] at this; omega
      by_cases hl : bl x < (bl x).drop (k + 1)
      · have d1 : Op.bytesLess (x.extract (k + 1) x.size).toList x.toList = false := less_no (by rw [bl_drop]; exact fun q => lt_asymm' q hl)
        have d2 : ((x.extract (k + 1) x.size).toList == x.toList) = false := teq_no (fun e => hne (by rw [bl_eq, bl_drop] at e; exact e.symm))
        have HN : Hid (∀ q, 0 < q → q < k + 1 + 1 → q < x.size → bl x < (bl x).drop q) := Lib.hid fun q q0 q1 q2 => by
          by_cases e : q = k + 1
          · subst e; exact hl
          · exact HQ.out q q0 (by omega) q2
        clear hl hne
        go_wp2
        go_roundg g
        case measure => omega
        case rel => exact ⟨k + 1, by omega, by go_num, hB, HN⟩
      · have hlt := lt_of_ne_not hl hne
        have d1 : Op.bytesLess (x.extract (k + 1) x.size).toList x.toList = true := less_yes (by rw [bl_drop]; exact hlt)
        have HN := Lib.hid (lynB_no (l := bl x) fun h => hl (h.2 (k + 1) (by omega) (by rw [bl_len]; exact hp)))
        clear hl hne hlt
        go_wp2
        go_ret
        exact ⟨by rw [HN.out]; rfl, hB⟩
    · by_cases h0 : x.size = 0
      · have HN := Lib.hid (lynB_no (l := bl x) fun h => h.1 (by rw [size_zero h0]))
        go_wp2
        go_ret
        exact ⟨by rw [HN.out]; exact ret_bool (by first | (simp; done) | (simp; omega)), hB⟩
      · have HN := Lib.hid (lynB_yes (l := bl x) ⟨bl_ne (by omega), fun q q0 q1 => HQ.out q q0 (by rw [bl_len] at q1; omega) (by rw [bl_len] at q1; exact q1)⟩)
        go_wp2
        go_ret
        exact ⟨by rw [HN.out]; exact ret_bool (by first | (simp; done) | (simp; omega)), hB⟩

end Go.Proofs.Ythjbdcoklgnnlab
