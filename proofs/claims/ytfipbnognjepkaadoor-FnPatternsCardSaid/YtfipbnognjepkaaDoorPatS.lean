/- Patterns in the model: the test of a pattern; does a word fit a pattern? -/
import Derived.Test.YtfipbnognjepkaaDoorPat3Plain
import Derived.Test.YtfipbnognjepkaaDoorWords
import Derived.Test.YtfipbnognjepkaaDoorStrs
import Derived.Test.YtfipbnognjepkaaDoorIsWordS
import Derived.Deep.RegionHeld3
namespace Go.Proofs.YtfipbnognjepkaaDoor
set_option linter.unusedVariables false
set_option linter.unusedSimpArgs false
open Go.RowKit

set_option maxRecDepth 100000 in
theorem l10Is_yes (s : ByteArray) (w : World) (h : IsP s) :
    Calls Tryd.prog 58 #[.string s] w fun e w' => e = .returned (.bool true) ∧ Below w.heap.size w w' := by
  have h8 := h.2.1
  have h0 := h.1
  go_enter Tryd.func58, Tryd.ntmps58
  go_wp2
  go_loopw [3] (fun i wr => ∃ k : Nat, k ≤ s.size ∧ i = .int .i64 k ∧ wr = w) (fun i _ => s.size - (intOf i).toNat)
  case atStart => exact ⟨0, Nat.zero_le _, rfl, rfl⟩
  case round =>
    obtain ⟨k, hk, rfl, rfl⟩ := hrel
    by_cases hp : k < s.size
    · obtain ⟨hlo, hhi⟩ := h.2.2 k hp
      go_wp2
      go_roundw
      case rel => exact ⟨k + 1, by omega, by go_num, by first | rfl | trivial⟩
      case measure => simp [intOf]; omega
    · go_wp2
      go_ret
      exact ⟨ret_bool (by simp; omega), Below.refl _ _⟩

/-- The first k bytes are variables. -/
def UpP (s : ByteArray) (k : Nat) : Prop := ∀ i (h : i < s.size), i < k → 65 ≤ (s[i]'h).toNat ∧ (s[i]'h).toNat ≤ 67

set_option maxRecDepth 100000 in
theorem l10Is_no (s : ByteArray) (w : World) (hs : s.size ≤ maxLen) (h : ¬ IsP s) :
    Calls Tryd.prog 58 #[.string s] w fun e w' => e = .returned (.bool false) ∧ Below w.heap.size w w' := by
  unfold maxLen at hs
  have H := Lib.hid h
  clear h
  go_enter Tryd.func58, Tryd.ntmps58
  go_wp2
  go_loopw [3] (fun i wr => ∃ k : Nat, k ≤ s.size ∧ i = .int .i64 k ∧ wr = w ∧ UpP s k) (fun i _ => s.size - (intOf i).toNat)
  case atStart => exact ⟨0, Nat.zero_le _, rfl, rfl, fun i _ h => by omega⟩
  case round =>
    obtain ⟨k, hk, rfl, rfl, hu⟩ := hrel
    have HU := Lib.hid hu
    clear hu
    by_cases hp : k < s.size
    · by_cases hlo : (s[k]'hp).toNat < 65
      · go_wp2
        go_ret
        exact ⟨rfl, Below.refl _ _⟩
      · by_cases hhi : 67 < (s[k]'hp).toNat
        · go_wp2
          go_ret
          exact ⟨rfl, Below.refl _ _⟩
        · have hlo' : 65 ≤ (s[k]'hp).toNat := by omega
          have hhi' : (s[k]'hp).toNat ≤ 67 := by omega
          have HN : Hid (UpP s (k + 1)) := Lib.hid (fun i hi hik => by
            by_cases e : i < k
            · exact HU.out i hi e
            · obtain rfl : i = k := by omega
              exact ⟨hlo', hhi'⟩)
          go_wp2
          go_roundw
          case rel => exact ⟨k + 1, by omega, by go_num, by first | rfl | trivial, HN.out⟩
          case measure => simp [intOf]; omega
    · have hke : k = s.size := by omega
      subst hke
      have hsz : s.size = 0 ∨ 8 < s.size := by
        rcases Nat.eq_zero_or_pos s.size with e | e
        · exact .inl e
        · rcases Nat.lt_or_ge 8 s.size with q | q
          · exact .inr q
          · exact absurd ⟨e, q, fun i hi => HU.out i hi hi⟩ H.out
      rcases hsz with hz | hz
      · go_wp2
        go_ret
        exact ⟨rfl, Below.refl _ _⟩
      · go_wp2
        go_ret
        exact ⟨ret_bool (by simp; omega), Below.refl _ _⟩
theorem bt_bl (x : ByteArray) : bt (bl x) = x := bl_inj rfl
theorem bt_from (l : List UInt8) (n : Nat) (h : n ≤ l.length) (W : World) : (Instr.slice 9 (.string (bt l)) (some (.int .i64 (n : Int))) none none).run Tryd.prog W = .ok (.string (bt (l.drop n))) W := by
  have := run_slice_string_l (P := Tryd.prog) W 9 (bt l) Tryd.underlying9 .i64 (n : Int) (by omega) (by rw [bt_size]; omega)
  have e : (bt l).extract n (bt l).size = bt (l.drop n) := bl_inj (by rw [bl_drop]; rfl)
  simpa [e] using this
theorem bt_to (l : List UInt8) (n : Nat) (h : n ≤ l.length) (W : World) : (Instr.slice 9 (.string (bt l)) none (some (.int .i64 (n : Int))) none).run Tryd.prog W = .ok (.string (bt (l.take n))) W := by
  have := run_slice_string_h (P := Tryd.prog) W 9 (bt l) Tryd.underlying9 .i64 (n : Int) (by omega) (by rw [bt_size]; omega)
  have e : (bt l).extract 0 n = bt (l.take n) := bl_inj (by rw [bl_take]; rfl)
  simpa [e] using this
theorem bt_one (l : List UInt8) (h : 1 ≤ l.length) (W : World) : (Instr.slice 9 (.string (bt l)) (some (.int .i64 1)) none none).run Tryd.prog W = .ok (.string (bt (l.drop 1))) W := bt_from l 1 h W
theorem bt_inj {a b : List UInt8} (h : bt a = bt b) : a = b := by have := congrArg bl h; exact this
theorem bt_eq_no {a b : List UInt8} (h : a ≠ b) : ((bt a).toList == (bt b).toList) = false := by
  rw [beq_eq_false_iff_ne, ByteArray.toList_eq, ByteArray.toList_eq]
  exact h
theorem bt_empty {l : List UInt8} : (bt l).toList = l := by rw [ByteArray.toList_eq]; rfl
/-- The answer to whether a word fits, some values being told. -/
def FitAns (R P : List UInt8) (V : Nat → List UInt8) (e : Ending) : Prop := ∃ v t, e = .returned (.tuple #[v, .bool t]) ∧ (t = true ↔ fitE R P V)
/-- Three texts in a block. -/
def Three (w : World) (b : Nat) (V : Nat → List UInt8) : Prop := b < w.heap.size ∧ ∀ j, j < 3 → w.cell? ⟨b, j, none⟩ = some (.string (bt (V j)))
theorem Three.past {w w' : World} {b : Nat} {V : Nat → List UInt8} (h : Three w b V) (hB : Below w.heap.size w w') : Three w' b V := ⟨Nat.lt_of_lt_of_le h.1 hB.size, fun j hj => by rw [(bcell hB).1 b j h.1]; exact h.2 j hj⟩

end Go.Proofs.YtfipbnognjepkaaDoor
