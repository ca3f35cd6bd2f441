/- The factors of a length: the model. -/
import Derived.Test.YtfipbnognjepkaaGreatDoorPut
import Derived.Test.YtfipbnognjepkaaGreatDoorFactor
namespace Go.Proofs.YtfipbnognjepkaaGreatDoor
set_option linter.unusedVariables false
set_option linter.unusedSimpArgs false
open Go.RowKit

set_option maxRecDepth 100000 in
set_option maxHeartbeats 1000000 in
theorem l01Factors_61 (x : ByteArray) (m : Nat) (w : World) (hx : x.size ≤ 60) (hm : m ≤ 61) :
    Calls Tryz.prog 107 #[.string x, .int .i64 (m : Int)] w fun e w' => ∃ v, e = .returned v ∧ OwnS w' w.heap.size v (facK x m (x.size + 1 - m)) ∧ Below w.heap.size w w' := by
  go_enter Tryz.func107, Tryz.ntmps107
  go_wp2
  go_loopw [5, 6] (fun v i wr => ∃ (k g cap : Nat), k ≤ x.size + 1 - m ∧ i = .int .i64 k ∧ v = .slice (some ⟨g, 0, none⟩) (facK x m k).length cap ∧ OwnS wr w.heap.size (.slice (some ⟨g, 0, none⟩) (facK x m k).length cap) (facK x m k) ∧ Below w.heap.size w wr)
    (fun _ i _ => x.size + 1 - (intOf i).toNat)
  case atStart =>
    refine ⟨0, _, _, Nat.zero_le _, rfl, rfl, ?_, Below.new _ _⟩
    exact World.ownsRow_lit w #[] 0 (Nat.le_refl _) (by decide) (by simp)
  case round =>
    obtain ⟨k, g, cap, hk, rfl, rfl, hown, hB⟩ := hrel
    have hbz := hB.size
    have hlen := facK_len x m k
    by_cases hp : k + m ≤ x.size
    · have hsl := fun W => slice_mid x k m hp W
      have hes : (x.extract k (k + m)).size ≤ 60 := by simp; omega
      have HP := Lib.hid (l01Put_any w.heap.size g cap (facK x m k) (x.extract k (k + m)) wr hown hbz (facK_asc x m k) (by omega) hes)
      clear hown hes
      go_wp2_with fail
      refine HP.out.mono ?_
      rintro e w2 ⟨g2, cap2, rfl, hown2, b2⟩
      have hB2 := hB.then b2
      go_wp2_with fail
      go_roundw
      case rel => exact ⟨k + 1, g2, cap2, by omega, by go_num, rfl, hown2, hB2⟩
      case measure => simp [intOf]; omega
    · have hke : k = x.size + 1 - m := by omega
      have HO := Lib.hid hown
      clear hown
      go_wp2
      go_ret
      rw [← hke]
      exact ⟨_, rfl, HO.out, hB⟩

theorem l01Factors_any (x : ByteArray) (m : Nat) (w : World) (hx : x.size ≤ 60) (hm : m ≤ 60) :
    Calls Tryz.prog 107 #[.string x, .int .i64 (m : Int)] w fun e w' => ∃ v, e = .returned v ∧ OwnS w' w.heap.size v (facK x m (x.size + 1 - m)) ∧ Below w.heap.size w w' := l01Factors_61 x m w hx (by omega)

end Go.Proofs.YtfipbnognjepkaaGreatDoor
