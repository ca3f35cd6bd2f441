/- The places of a factor: the model. -/
import Derived.Test.YtkemdiefoohdjaaDoorInts
import Derived.Test.YtkemdiefoohdjaaDoorFactor
import Derived.Test.YtkemdiefoohdjaaDoorNumbers
import Derived.Test.YtkemdiefoohdjaaDoorPlacesPlain
namespace Go.Proofs.YtkemdiefoohdjaaDoor
set_option linter.unusedVariables false
set_option linter.unusedSimpArgs false
open Go.RowKit

set_option maxRecDepth 100000 in
set_option maxHeartbeats 1000000 in
theorem l01Places_any (x u : ByteArray) (w : World) (hx : x.size ≤ 60) (hu : u.size ≤ 60) :
    Calls Tryd.prog 19 #[.string x, .string u] w fun e w' => ∃ v, e = .returned v ∧ OwnI w' w.heap.size v (posOf x u (List.range (x.size + 1 - u.size))) ∧ Below w.heap.size w w' := by
  obtain ⟨i0, hi, hz0, hz1, hz2⟩ := info_parts infoI64
  go_enter Tryd.func19, Tryd.ntmps19
  go_wp2
  go_loopw [5, 6] (fun v i wr => ∃ k : Nat, k ≤ x.size + 1 - u.size ∧ i = .int .i64 k ∧ wr.ownsRow w.heap.size 2 1 v (posOf x u (List.range k)).length ((posOf x u (List.range k)).map (Value.int .i64)) ∧ Below w.heap.size w wr)
    (fun _ i _ => x.size + 1 - (intOf i).toNat)
  case atStart =>
    refine ⟨0, Nat.zero_le _, rfl, ?_, Below.new _ _⟩
    exact World.ownsRow_lit w #[] 0 (Nat.le_refl _) (by decide) (by simp)
  case round =>
    obtain ⟨k, hk, rfl, hown, hB⟩ := hrel
    have hbz := hB.size
    have hlen := posOf_len x u (List.range k)
    rw [List.length_range] at hlen
    by_cases hp : k + u.size ≤ x.size
    · have hsl := fun W => slice_mid x k u.size hp W
      by_cases he : x.extract k (k + u.size) = u
      · have hsn := posOf_hit x u (List.range k) he
        rw [← List.range_succ] at hsn
        have HS := Lib.hid hsn
        have hq := teq_yes he
        clear hsn he
        generalize posOf x u (List.range k) = L at hown hlen HS
        go_wp2_with (at_builtin; refine wpList_append_own _ rfl _ _ 22 rfl w.heap.size 2 i0 (.int .i64 0) 1 8 Tryd.underlying22 hi hz0 hz1 hz2 rfl (by decide) _ _ _ rfl (hown.alloc _) ⟨_, 0, none⟩ 1 1 [.int .i64 (k : Int)] rfl rfl (cell_new _ _ _) (by intro u hu; simp at hu; subst hu; rfl) (by unfold maxLen; omega) (by omega) (by simp; omega) ?_; intro v' w3 hown' hgrow _)
        go_roundw
        case rel =>
          refine ⟨k + 1, by omega, by go_num, ?_, ?_⟩
          · rw [HS.out, List.length_append, ← map_snoc]; exact hown'
          · exact (hB.alloc hbz _).grown hgrow (by simp; omega) (fun q hq => (hown.lt q hq).1)
        case measure => simp [intOf]; omega
      · have hsn := posOf_miss x u (List.range k) he
        rw [← List.range_succ] at hsn
        have HS := Lib.hid hsn
        have hq := teq_no he
        clear hsn he
        go_wp2
        go_roundw
        case rel => exact ⟨k + 1, by omega, by go_num, by rw [HS.out]; exact hown, hB⟩
        case measure => simp [intOf]; omega
    · have hke : k = x.size + 1 - u.size := by omega
      have HO := Lib.hid hown
      clear hown
      go_wp2
      go_ret
      rw [← hke]
      exact ⟨_, rfl, HO.out, hB⟩

end Go.Proofs.YtkemdiefoohdjaaDoor
