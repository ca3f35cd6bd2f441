/- Morphisms: the two tests, and the codes of a morphism and a word of its letters. -/
import Derived.Test.YtfipbnognjepkaaDoorMorPlain
import Derived.Test.YtfipbnognjepkaaDoorStrs
import Derived.Test.YtfipbnognjepkaaDoorWord
namespace Go.Proofs.YtfipbnognjepkaaDoor
set_option linter.unusedVariables false
set_option linter.unusedSimpArgs false
open Go.RowKit

theorem OwnS.rowM {w : World} {B : Nat} {v : Value} {I : List (List UInt8)} (h : OwnS w B v (I.map bt)) (hn : 0 < I.length) :
    ∃ g cap, v = .slice (some ⟨g, 0, none⟩) I.length cap ∧ g < w.heap.size ∧ I.length ≤ cap ∧ (∀ j (hj : j < I.length), w.cell? ⟨g, j, none⟩ = some (.string (bt (I[j]'hj)))) := by
  obtain ⟨g, cap, hv, _, hg, hc, _, cell, _⟩ := OwnS.row h (by simpa using hn)
  rw [List.length_map] at hv hc
  refine ⟨g, cap, hv, hg, hc, fun j hj => ?_⟩
  rw [cell j (by simpa using hj), List.getElem_map]

set_option maxRecDepth 100000 in
theorem l01Is_qyes (s : ByteArray) (w : World) (h : IsW s) :
    Calls Tryd.prog 57 #[.string s] w fun e w' => e = .returned (.bool true) ∧ w = w' := by
  have h60 := h.size
  go_enter Tryd.func57, Tryd.ntmps57
  go_wp2
  go_loopw [3] (fun i wr => ∃ k : Nat, k ≤ s.size ∧ i = .int .i64 k ∧ wr = w) (fun i _ => s.size - (intOf i).toNat)
  case atStart => exact ⟨0, Nat.zero_le _, rfl, rfl⟩
  case round =>
    obtain ⟨k, hk, rfl, rfl⟩ := hrel
    by_cases hp : k < s.size
    · have hlo := h.lo k hp
      have hhi := h.hi k hp
      go_wp2
      go_roundw
      case rel => exact ⟨k + 1, by omega, by go_num, by first | rfl | trivial⟩
      case measure => simp [intOf]; omega
    · go_wp2
      go_ret
      exact ⟨ret_bool (by simp; omega), rfl⟩

set_option maxRecDepth 100000 in
theorem l01Is_qno (s : ByteArray) (w : World) (hs : s.size ≤ maxLen) (h : ¬ IsW s) :
    Calls Tryd.prog 57 #[.string s] w fun e w' => e = .returned (.bool false) ∧ w = w' := by
  unfold maxLen at hs
  have HN := Lib.hid h
  clear h
  go_enter Tryd.func57, Tryd.ntmps57
  go_wp2
  go_loopw [3] (fun i wr => ∃ k : Nat, k ≤ s.size ∧ i = .int .i64 k ∧ wr = w ∧ UpTo s k) (fun i _ => s.size - (intOf i).toNat)
  case atStart => exact ⟨0, Nat.zero_le _, rfl, rfl, UpTo.zero s⟩
  case round =>
    obtain ⟨k, hk, rfl, rfl, hu⟩ := hrel
    have HU := Lib.hid hu
    clear hu
    by_cases hp : k < s.size
    · by_cases hlo : (s[k]'hp).toNat < 97
      · go_wp2
        go_ret
        exact ⟨rfl, rfl⟩
      · by_cases hhi : (s[k]'hp).toNat ≤ 101
        · go_wp2
          go_roundw
          case rel => exact ⟨k + 1, by omega, by go_num, by first | rfl | trivial, HU.out.succ hp (by omega) (by omega)⟩
          case measure => simp [intOf]; omega
        · go_wp2
          go_ret
          exact ⟨rfl, rfl⟩
    · have h60 : ¬ s.size ≤ 60 := fun hs => HN.out (HU.out.whole (by omega) hs)
      go_wp2
      go_ret
      exact ⟨ret_bool (by simp; omega), rfl⟩

set_option maxRecDepth 100000 in
theorem l06Few_yes (s : ByteArray) (m : Nat) (w : World) (h : IsW s) (hf : Few m s) (hm : m ≤ 5) :
    Calls Tryd.prog 126 #[.string s, .int .i64 (m : Int)] w fun e w' => e = .returned (.bool true) ∧ w = w' := by
  have h60 := h.size
  go_enter Tryd.func126, Tryd.ntmps126
  go_wp2
  go_loopw [5] (fun i wr => ∃ k : Nat, k ≤ s.size ∧ i = .int .i64 k ∧ wr = w) (fun i _ => s.size - (intOf i).toNat)
  case atStart => exact ⟨0, Nat.zero_le _, rfl, rfl⟩
  case round =>
    obtain ⟨k, hk, rfl, rfl⟩ := hrel
    by_cases hp : k < s.size
    · have hlo := h.lo k hp
      have hhi := h.hi k hp
      have hfk := hf k hp
      go_wp2
      go_roundw
      case rel => exact ⟨k + 1, by omega, by go_num, by first | rfl | trivial⟩
      case measure => simp [intOf]; omega
    · go_wp2
      go_ret
      exact ⟨rfl, rfl⟩

set_option maxRecDepth 100000 in
theorem l06Few_no (s : ByteArray) (m : Nat) (w : World) (h : IsW s) (hf : ¬ Few m s) (hm : m ≤ 5) :
    Calls Tryd.prog 126 #[.string s, .int .i64 (m : Int)] w fun e w' => e = .returned (.bool false) ∧ w = w' := by
  have h60 := h.size
  have HN := Lib.hid hf
  clear hf
  go_enter Tryd.func126, Tryd.ntmps126
  go_wp2
  go_loopw [5] (fun i wr => ∃ k : Nat, k ≤ s.size ∧ i = .int .i64 k ∧ wr = w ∧ FewTo m s k) (fun i _ => s.size - (intOf i).toNat)
  case atStart => exact ⟨0, Nat.zero_le _, rfl, rfl, FewTo.zero m s⟩
  case round =>
    obtain ⟨k, hk, rfl, rfl, hu⟩ := hrel
    have HU := Lib.hid hu
    clear hu
    have hp : k < s.size := Nat.lt_of_not_le fun hp => HN.out (HU.out.whole hp)
    have hlo := h.lo k hp
    have hhi := h.hi k hp
    by_cases hfk : (s[k]'hp).toNat < 97 + m
    · go_wp2
      go_roundw
      case rel => exact ⟨k + 1, by omega, by go_num, by first | rfl | trivial, HU.out.succ hp hfk⟩
      case measure => simp [intOf]; omega
    · go_wp2
      go_ret
      exact ⟨rfl, rfl⟩

set_option maxRecDepth 100000 in
theorem letterOfM_any (n : Nat) (w : World) (h4 : n ≤ 5) :
    Calls Tryd.prog 150 #[.int .i64 (n : Int)] w fun e w' => e = .returned (.int .i32 (97 + (n : Int))) ∧ w = w' := by
  go_enter Tryd.func150, Tryd.ntmps150
  go_wp2
  go_ret
  exact ⟨rfl, rfl⟩

set_option maxRecDepth 100000 in
theorem hasFirst_yes (s : ByteArray) (m : Nat) (w : World) (h : IsW s) (hf : Few m s) (hm : m ≤ 5) :
    Calls Tryd.prog 129 #[.string s, .int .i64 (m : Int)] w fun e w' => e = .returned (.bool true) ∧ Below w.heap.size w w' := by
  have h60 := h.size
  go_enter Tryd.func129, Tryd.ntmps129
  go_wp2
  go_loopw [] (fun wr => ∃ pos, wr = w.iter s pos) (fun wr => s.size - wr.iterPos w.heap.size)
  case atStart => exact ⟨0, rfl⟩
  case round =>
    obtain ⟨pos, rfl⟩ := hrel
    by_cases hp : pos < s.size
    · have hlo := h.lo pos hp
      have hhi := h.hi pos hp
      have hfk := hf pos hp
      have hnx : ∀ ty, (Instr.next (.pointer (some ⟨w.heap.size, 0, none⟩)) true ty).run Tryd.prog (w.iter s pos) = _ := fun ty => run_next_ascii w s pos ty hp (by omega)
      go_wp2_with (go_at_call 150; refine (letterOfM_any m _ hm).mono ?_; rintro e w2 ⟨rfl, rfl⟩)
      go_roundw
      case rel => exact ⟨pos + 1, rfl⟩
      case measure => simp; omega
    · have hnx : ∀ ty, (Instr.next (.pointer (some ⟨w.heap.size, 0, none⟩)) true ty).run Tryd.prog (w.iter s pos) = _ := fun ty => run_next_end w s pos ty hp
      go_wp2
      go_ret
      exact ⟨rfl, (Below.refl _ _).alloc (Nat.le_refl _) _⟩

set_option maxRecDepth 100000 in
theorem hasFirst_no (s : ByteArray) (m : Nat) (w : World) (h : IsW s) (hf : ¬ Few m s) (hm : m ≤ 5) :
    Calls Tryd.prog 129 #[.string s, .int .i64 (m : Int)] w fun e w' => e = .returned (.bool false) ∧ Below w.heap.size w w' := by
  have h60 := h.size
  have HN := Lib.hid hf
  clear hf
  go_enter Tryd.func129, Tryd.ntmps129
  go_wp2
  go_loopw [] (fun wr => ∃ pos, wr = w.iter s pos ∧ FewTo m s pos) (fun wr => s.size - wr.iterPos w.heap.size)
  case atStart => exact ⟨0, rfl, FewTo.zero m s⟩
  case round =>
    obtain ⟨pos, rfl, hu⟩ := hrel
    have HU := Lib.hid hu
    clear hu
    have hp : pos < s.size := Nat.lt_of_not_le fun hp => HN.out (HU.out.whole hp)
    have hlo := h.lo pos hp
    have hhi := h.hi pos hp
    have hnx : ∀ ty, (Instr.next (.pointer (some ⟨w.heap.size, 0, none⟩)) true ty).run Tryd.prog (w.iter s pos) = _ := fun ty => run_next_ascii w s pos ty hp (by omega)
    by_cases hfk : (s[pos]'hp).toNat < 97 + m
    · go_wp2_with (go_at_call 150; refine (letterOfM_any m _ hm).mono ?_; rintro e w2 ⟨rfl, rfl⟩)
      go_roundw
      case rel => exact ⟨pos + 1, rfl, HU.out.succ hp hfk⟩
      case measure => simp; omega
    · go_wp2_with (go_at_call 150; refine (letterOfM_any m _ hm).mono ?_; rintro e w2 ⟨rfl, rfl⟩)
      go_ret
      exact ⟨rfl, (Below.refl _ _).alloc (Nat.le_refl _) _⟩
end Go.Proofs.YtfipbnognjepkaaDoor
