/- The model's periods of a word. -/
import Derived.Test.YthjbdcoklgnnlabInts
import Derived.Test.YthjbdcoklgnnlabPerPlain
import Derived.Test.YthjbdcoklgnnlabPlacesPlain
namespace Go.Proofs.Ythjbdcoklgnnlab
set_option linter.unusedVariables false
set_option linter.unusedSimpArgs false
open Go.RowKit

theorem slice_to (x : ByteArray) (z : Int) (n : Nat) (hz : z = n) (h : n ≤ x.size) (W : World) :
    (Instr.slice 9 (.string x) none (some (.int .i64 z)) none).run Try.prog W = .ok (.string (x.extract 0 n)) W := by
  subst hz
  have := run_slice_string_h (P := Try.prog) W 9 x Try.underlying9 .i64 (n : Int) (by omega) (by omega)
  simpa using this

theorem slice_from (x : ByteArray) (z : Int) (n : Nat) (hz : z = n) (h : n ≤ x.size) (W : World) :
    (Instr.slice 9 (.string x) (some (.int .i64 z)) none none).run Try.prog W = .ok (.string (x.extract n x.size)) W := by
  subst hz
  have := run_slice_string_l (P := Try.prog) W 9 x Try.underlying9 .i64 (n : Int) (by omega) (by omega)
  simpa using this

set_option maxRecDepth 100000 in
set_option maxHeartbeats 1000000 in
theorem l02Periods_any (x : ByteArray) (w : World) (hx : x.size ≤ 60) :
    Calls Try.prog 142 #[.string x] w fun e w' => ∃ v, e = .returned v ∧ OwnI w' w.heap.size v (persR (bl x) x.size) ∧ Below w.heap.size w w' := by
  obtain ⟨i0, hi, hz0, hz1, hz2⟩ := info_parts infoI64
  go_enter Try.func142, Try.ntmps142
  go_wp2
  go_loopw [3, 4] (fun v i wr => ∃ k : Nat, k ≤ x.size ∧ i = .int .i64 ((k : Int) + 1) ∧ OwnI wr w.heap.size v (persR (bl x) k) ∧ Below w.heap.size w wr)
    (fun _ i _ => x.size + 1 - (intOf i).toNat)
  case atStart =>
    refine ⟨0, Nat.zero_le _, rfl, ?_, Below.new _ _⟩
    exact World.ownsRow_lit w #[] 0 (Nat.le_refl _) (by decide) (by simp)
  case round =>
    obtain ⟨k, hk, rfl, hown, hB⟩ := hrel
    have hbz := hB.size
    have hlen := persR_len (bl x) k
    by_cases hp : k < x.size
    · have hs1 := fun W => slice_to x ((x.size : Int) - ((k : Int) + 1)) (x.size - (k + 1)) (by omega) (by omega) W
      have hpt := per_text x (k + 1) (by omega)
      by_cases he : perT (bl x) (k + 1) = true
      · have hsn := persR_hit (bl x) k he
        have HS := Lib.hid hsn
        have hq := teq_yes (hpt.2 he)
        clear hsn he hpt
        generalize persR (bl x) k = L at hown hlen HS
        go_wp2
        go_quiet (fail)
        have hown2 : OwnI (wr.drewN nq) w.heap.size u3 L := hown
        have hB2 : Below w.heap.size w (wr.drewN nq) := hB.drewN _
        have hbz2 : w.heap.size ≤ (wr.drewN nq).heap.size := hB2.size
        generalize wr.drewN nq = wq at hown2 hB2 hbz2 ⊢
        clear hown hB hbz
        go_wp2_with (at_builtin; refine wpList_append_own _ rfl _ _ 34 rfl w.heap.size 2 i0 (.int .i64 0) 1 8 Try.underlying34 hi hz0 hz1 hz2 rfl (by decide) _ _ _ rfl (hown2.alloc _) ⟨_, 0, none⟩ 1 1 [.int .i64 ((k : Int) + 1)] rfl rfl (cell_new _ _ _) (by intro u hu; simp at hu; subst hu; rfl) (by unfold maxLen; omega) (by omega) (by simp; omega) ?_; intro v' w3 hown' hgrow _)
        go_roundw
        case rel =>
          refine ⟨k + 1, by omega, by go_num, ?_, ?_⟩
          · unfold OwnI; rw [HS.out, List.length_append, ← map_snoc]; exact hown'
          · exact (hB2.alloc hbz2 _).grown hgrow (by simp; omega) (fun q hq => (hown2.lt q hq).1)
        case measure => simp [intOf]; omega
      · have he2 : perT (bl x) (k + 1) = false := by simpa using he
        have hsn := persR_miss (bl x) k he2
        have HS := Lib.hid hsn
        have hq := teq_no (fun h => he (hpt.1 h))
        clear hsn he hpt he2
        go_wp2
        go_quiet (fail)
        go_wp2
        go_roundw
        case rel => exact ⟨k + 1, by omega, by go_num, by rw [HS.out]; exact hown, hB.drewN _⟩
        case measure => simp [intOf]; omega
    · have hke : k = x.size := by omega
      have HO := Lib.hid hown
      clear hown
      go_wp2
      go_ret
      rw [← hke]
      exact ⟨_, rfl, HO.out, hB⟩

end Go.Proofs.Ythjbdcoklgnnlab
