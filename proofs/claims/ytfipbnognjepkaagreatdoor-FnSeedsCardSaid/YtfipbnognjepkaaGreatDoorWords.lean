/- The test of a list of words: contracts. -/
import Derived.Test.YtfipbnognjepkaaGreatDoorWord
import Derived.Deep.QuietTactic
import Derived.BigQuiet
import Derived.Deep.RegionWith
namespace Go.Proofs.YtfipbnognjepkaaGreatDoor
set_option linter.unusedVariables false
open Go.RowKit

theorem index_at (x : ByteArray) (i : Int) (n : Nat) (hn : n < x.size) (h : i = n) (W : World) :
    (Instr.index 9 (.string x) (.int .i64 i)).run Tryz.prog W = .ok (.int .u8 ((x[n]'hn).toNat : Int)) W := by
  subst h
  rw [run_index_string (h := Tryz.underlying9), dif_pos ⟨by omega, by omega⟩]
  rfl

theorem bcell {W w1 : World} (hb : Below W.heap.size W w1) : (∀ b o, b < W.heap.size → w1.cell? ⟨b, o, none⟩ = W.cell? ⟨b, o, none⟩) ∧ (∀ b o, b < W.heap.size → w1.frozen? ⟨b, o, none⟩ = W.frozen? ⟨b, o, none⟩) :=
  ⟨fun b o h => hb.cell (p := ⟨b, o, none⟩) h, fun b o h => hb.frozen (p := ⟨b, o, none⟩) h⟩

theorem _root_.Go.RowKit.Below.drewN {B : Nat} {a w : World} (h : Below B a w) (n : Nat) : Below B a (w.drewN n) := h.trans ⟨rfl, rfl, rfl, Nat.le_refl _, fun _ _ => rfl⟩
/-- One call behind another. -/
theorem _root_.Go.RowKit.Below.then {W a b : World} (h : Below W.heap.size W a) (k : Below a.heap.size a b) : Below W.heap.size W b := h.trans (k.mono h.size)
theorem _root_.Go.RowKit.Below.new (W : World) (o : Obj) : Below W.heap.size W (W.alloc o) := (Below.refl _ _).alloc (Nat.le_refl _) _

set_option maxRecDepth 100000 in
theorem areWords_yes (b : Nat) (xs : List ByteArray) (w : World) (hb : b < w.heap.size) (hn : xs.length ≤ 9)
    (hc : ∀ j (h : j < xs.length), w.cell? ⟨b, j, none⟩ = some (.string (xs[j]'h))) (h : ∀ j (h : j < xs.length), IsW (xs[j]'h)) :
    Calls Tryz.prog 85 #[.slice (some ⟨b, 0, none⟩) xs.length xs.length] w fun e w' => e = .returned (.bool true) ∧ Below w.heap.size w w' := by
  have HC := Lib.hid hc
  have H := Lib.hid h
  clear hc h
  go_enter Tryz.func85, Tryz.ntmps85
  go_wp2
  go_loopw [7] (fun i wr => ∃ k : Nat, k ≤ xs.length ∧ i = .int .i64 k ∧ Below w.heap.size w wr) (fun i _ => xs.length - (intOf i).toNat)
  case atStart => exact ⟨0, Nat.zero_le _, rfl, Below.refl _ _⟩
  case round =>
    obtain ⟨k, hk, rfl, hB⟩ := hrel
    by_cases hp : k < xs.length
    · have hcell : wr.cell? ⟨b, k, none⟩ = some (.string (xs[k]'hp)) := by rw [(bcell hB).1 b k hb]; exact HC.out k hp
      have hw := H.out k hp
      have HW := Lib.hid hw
      clear hw
      go_wp2_with (go_at_call 77; refine (isWord_yes _ _ HW.out).mono ?_; rintro e w1 ⟨rfl, b1⟩)
      go_roundw
      case rel => exact ⟨k + 1, by omega, by go_num, hB.trans (b1.mono hB.size)⟩
      case measure => simp [intOf]; omega
    · go_wp2
      go_ret
      exact ⟨rfl, hB⟩

set_option maxRecDepth 100000 in
theorem areWords_no (b : Nat) (xs : List ByteArray) (w : World) (hb : b < w.heap.size) (hn : xs.length ≤ 9)
    (hc : ∀ j (h : j < xs.length), w.cell? ⟨b, j, none⟩ = some (.string (xs[j]'h))) (hs : ∀ j (h : j < xs.length), (xs[j]'h).size ≤ maxLen) (h : ¬ ∀ j (h : j < xs.length), IsW (xs[j]'h)) :
    Calls Tryz.prog 85 #[.slice (some ⟨b, 0, none⟩) xs.length xs.length] w fun e w' => e = .returned (.bool false) ∧ Below w.heap.size w w' := by
  have HC := Lib.hid hc
  have HS := Lib.hid hs
  have H := Lib.hid h
  clear hc h hs
  go_enter Tryz.func85, Tryz.ntmps85
  go_wp2
  go_loopw [7] (fun i wr => ∃ k : Nat, k ≤ xs.length ∧ i = .int .i64 k ∧ Below w.heap.size w wr ∧ ∀ j (h : j < xs.length), j < k → IsW (xs[j]'h)) (fun i _ => xs.length - (intOf i).toNat)
  case atStart => exact ⟨0, Nat.zero_le _, rfl, Below.refl _ _, fun j _ h => absurd h (by omega)⟩
  case round =>
    obtain ⟨k, hk, rfl, hB, hu⟩ := hrel
    have HU := Lib.hid hu
    clear hu
    by_cases hp : k < xs.length
    · have hcell : wr.cell? ⟨b, k, none⟩ = some (.string (xs[k]'hp)) := by rw [(bcell hB).1 b k hb]; exact HC.out k hp
      by_cases hw : IsW (xs[k]'hp)
      · have HW := Lib.hid hw
        clear hw
        go_wp2_with (go_at_call 77; refine (isWord_yes _ _ HW.out).mono ?_; rintro e w1 ⟨rfl, b1⟩)
        go_roundw
        case rel =>
          refine ⟨k + 1, by omega, by go_num, hB.trans (b1.mono hB.size), fun j hj hjk => ?_⟩
          by_cases e : j = k
          · subst e; exact HW.out
          · exact HU.out j hj (by omega)
        case measure => simp [intOf]; omega
      · have HW := Lib.hid hw
        clear hw
        go_wp2_with (go_at_call 77; refine (isWord_not _ _ (HS.out k hp) HW.out).mono ?_; rintro e w1 ⟨rfl, b1⟩)
        go_ret
        exact ⟨rfl, hB.trans (b1.mono hB.size)⟩
    · exact absurd (fun j hj => HU.out j hj (by omega)) H.out

/-- Two words: both cells known. -/
theorem areWords2_yes (b : Nat) (x y : ByteArray) (w : World) (hb : b < w.heap.size) (c0 : w.cell? ⟨b, 0, none⟩ = some (.string x)) (c1 : w.cell? ⟨b, 1, none⟩ = some (.string y)) (hx : IsW x) (hy : IsW y) :
    Calls Tryz.prog 85 #[.slice (some ⟨b, 0, none⟩) 2 2] w fun e w' => e = .returned (.bool true) ∧ Below w.heap.size w w' :=
  areWords_yes b [x, y] w hb (by simp) (fun j h => by match j, h with | 0, _ => exact c0 | 1, _ => exact c1) (fun j h => by match j, h with | 0, _ => exact hx | 1, _ => exact hy)

theorem areWords2_no (b : Nat) (x y : ByteArray) (w : World) (hb : b < w.heap.size) (c0 : w.cell? ⟨b, 0, none⟩ = some (.string x)) (c1 : w.cell? ⟨b, 1, none⟩ = some (.string y)) (sx : x.size ≤ maxLen) (sy : y.size ≤ maxLen) (h : ¬ (IsW x ∧ IsW y)) :
    Calls Tryz.prog 85 #[.slice (some ⟨b, 0, none⟩) 2 2] w fun e w' => e = .returned (.bool false) ∧ Below w.heap.size w w' :=
  areWords_no b [x, y] w hb (by simp) (fun j h => by match j, h with | 0, _ => exact c0 | 1, _ => exact c1) (fun j h => by match j, h with | 0, _ => exact sx | 1, _ => exact sy)
    (fun k => h ⟨k 0 (by simp), k 1 (by simp)⟩)

end Go.Proofs.YtfipbnognjepkaaGreatDoor
