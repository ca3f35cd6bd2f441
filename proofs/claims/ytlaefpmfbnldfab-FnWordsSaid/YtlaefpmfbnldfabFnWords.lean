/- What the law on words wants of its helpers. -/
import Derived.Test.YtlaefpmfbnldfabFnWordsPlain
import Derived.Test.YtlaefpmfbnldfabIsWordS
import Derived.Test.YtlaefpmfbnldfabInts
namespace Go.Proofs.Ytlaefpmfbnldfab
set_option linter.unusedVariables false
set_option linter.unusedSimpArgs false
open Go.RowKit

theorem isWord_both (x : ByteArray) (sx : x.size ≤ maxLen) : ∃ b : Bool,
    (∀ w, Calls Try.prog 52 #[.string x] w fun e w' => e = .returned (.bool b) ∧ Below w.heap.size w w') ∧
    (∀ w, Calls Try.prog 53 #[.string x] w fun e w' => e = .returned (.bool b) ∧ Below w.heap.size w w') := by
  by_cases h : IsW x
  · exact ⟨true, fun w => isWord_yes x w h, fun w => spec_IsWord_yes x w h⟩
  · exact ⟨false, fun w => isWord_not x w sx h, fun w => spec_IsWord_no x w sx h⟩

theorem take_sum (L : List Int) (k : Nat) (h : k < L.length) : (L.take (k + 1)).sum = (L.take k).sum + L[k]'h := by
  rw [List.take_succ_eq_append_getElem h, List.sum_append]
  simp
theorem take_sum_bd {L : List Int} (h : ∀ z ∈ L, 0 ≤ z ∧ z ≤ 60) : ∀ k, k ≤ L.length → 0 ≤ (L.take k).sum ∧ (L.take k).sum ≤ 60 * k
  | 0, _ => by simp
  | k + 1, hk => by
    have h1 := take_sum_bd h k (by omega)
    have h2 := h _ (List.getElem_mem (show k < L.length by omega))
    rw [take_sum L k (by omega)]
    omega

set_option maxRecDepth 100000 in
theorem sum_any (B : Nat) (v : Value) (L : List Int) (w : World) (h : OwnI w B v L) (hb : ∀ z ∈ L, 0 ≤ z ∧ z ≤ 60) (hl : L.length ≤ 1000) (hn : 0 < L.length) :
    Calls Try.prog 60 #[v] w fun e w' => e = .returned (.int .i64 L.sum) ∧ Below w.heap.size w w' := by
  obtain ⟨g, c, rfl, _, hg, hc, _, cell, _⟩ := h.row hn
  have C := Lib.hid cell
  have HB := Lib.hid hb
  clear h cell hb
  go_enter Try.func60, Try.ntmps60
  go_wp2
  go_loopw [3, 4] (fun s i wr => ∃ k : Nat, k ≤ L.length ∧ s = .int .i64 (L.take k).sum ∧ i = .int .i64 k ∧ wr = w) (fun _ i _ => L.length - (intOf i).toNat)
  case atStart => exact ⟨0, Nat.zero_le _, by simp, rfl, rfl⟩
  case round =>
    obtain ⟨k, hk, rfl, rfl, rfl⟩ := hrel
    have bd := take_sum_bd HB.out k hk
    by_cases hp : k < L.length
    · have k1 := C.out k hp
      have hs := take_sum L k hp
      have bd2 := HB.out _ (List.getElem_mem hp)
      have hpc : k < c := by omega
      have HS := Lib.hid hs
      clear hs
      generalize (L.take k).sum = s1 at bd HS ⊢
      generalize L[k]'hp = z at k1 bd2 HS
      go_wp2
      go_roundw
      case rel => exact ⟨k + 1, by omega, by rw [HS.out], by go_num, by first | rfl | trivial⟩
      case measure => simp [intOf]; omega
    · have hke : L.take k = L := List.take_of_length_le (by omega)
      rw [hke]
      rw [hke] at bd
      go_wp2
      go_ret
      exact ⟨rfl, Below.refl _ _⟩

end Go.Proofs.Ytlaefpmfbnldfab
