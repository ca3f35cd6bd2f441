/- UncoveredPlaces: the model. -/
import Derived.Test.YtkemdiefoohdjaaDoorCovS
namespace Go.Proofs.YtkemdiefoohdjaaDoor
set_option linter.unusedVariables false
set_option linter.unusedSimpArgs false
open Go.RowKit

theorem tab_past {W W' : World} {B G n : Nat} {o : Nat → Bool} {r : Option Nat} (h : TabO W B G n o) (g : W.grownBy W' r) (hr : some G ≠ r) : TabO W' B G n o := World.ownsRow.kept h g (.inr hr)
set_option maxRecDepth 100000 in
set_option maxHeartbeats 2000000 in
theorem spec_UncoveredPlaces (x u : ByteArray) (w : World) (sx : x.size ≤ maxLen) (su : u.size ≤ maxLen) :
    Calls Tryd.prog 4 #[.string x, .string u] w (RetI (uncoveredR x u).1 (uncoveredR x u).2 w) := by
  obtain ⟨i0, hi, hz0, hz1, hz2⟩ := info_parts infoI64
  by_cases h : IsW x ∧ IsW u
  · by_cases k : u.size = 0
    · have e1 := codeR1_empty h k
      rw [uncoveredR_empty h k]
      clear h
      go_enter Tryd.func4, Tryd.ntmps4
      go_wp2_with (go_at_call 9; refine (l09Code1_any x u _ sx su _ (by simp) (by simp [go_sem])).mono ?_; rintro e w1 ⟨rfl, b1⟩)
      go_ret2
      exact ⟨_, rfl, OwnI.nil _ _, (Below.new _ _).then b1⟩
    · have e1 := codeR1_ok h k
      rw [uncoveredR_ok h k]
      have zx := h.1.size
      have zu := h.2.size
      clear h k
      go_enter Tryd.func4, Tryd.ntmps4
      go_wp2_with (first | (go_at_call 9; refine (l09Code1_any x u _ sx su _ (by simp) (by simp [go_sem])).mono ?_; rintro e w1 ⟨rfl, b1⟩; have B1 := (Below.new w (.cells #[.string u] 9)).then b1) | (go_at_call 10; refine (l09Places_any x u _ zx zu).mono ?_; rintro e w2 ⟨G, rfl, t2, b2⟩))
      have hGl := (t2.lt G rfl).2
      have T2 := Lib.hid t2
      have B2 := B1.then b2
      clear t2
      go_loopw [8, 9] (fun s8 s9 wr => ∃ k : Nat, k ≤ x.size ∧ s9 = .int .i64 (k : Int) ∧ OwnI wr w2.heap.size s8 (uncL x u k) ∧ Below w2.heap.size w2 wr)
        (fun _ s9 _ => x.size - (intOf s9).toNat)
      case atStart => exact ⟨0, Nat.zero_le _, rfl, OwnI.lit0 _ (Nat.le_refl _), Below.new _ _⟩
      case round =>
        obtain ⟨k, hk, rfl, hown, hB⟩ := hrel
        have hbz := hB.size
        have hll := uncL_len x u k
        by_cases hp : k < x.size
        · have hkn : (k : Int) < (x.size : Int) := by omega
          have hk0 : (0 : Int) ≤ (k : Int) := by omega
          have q1 : wr.cell? ⟨G, k, none⟩ = some (.bool (cvB x u k)) := by rw [(bcell hB).1 G k hGl]; exact T2.out.at hp
          cases h1 : cvB x u k with
          | true =>
            rw [h1] at q1
            have HS := Lib.hid (uncL_hit h1)
            clear h1
            go_wp2_with fail
            go_roundw
            case rel => exact ⟨k + 1, by omega, by go_num, by rw [HS.out]; exact hown, hB⟩
            case measure => simp [intOf]; omega
          | false =>
            rw [h1] at q1
            have HS := Lib.hid (uncL_miss h1)
            clear h1
            generalize uncL x u k = L at *
            go_wp2_with (at_builtin; refine wpList_append_own _ rfl _ _ 22 rfl w2.heap.size 2 i0 (.int .i64 0) 1 8 Tryd.underlying22 hi hz0 hz1 hz2 rfl (by decide) _ _ _ rfl (World.ownsRow.alloc hown _) ⟨_, 0, none⟩ 1 1 [.int .i64 (k : Int)] rfl rfl (cell_new _ _ _) (by intro u hu; simp at hu; subst hu; rfl) (by unfold maxLen; omega) (by omega) (by simp; omega) ?_; intro v' w3 hown' hgrow _)
            go_roundw
            case rel =>
              refine ⟨k + 1, by omega, by go_num, ?_, ?_⟩
              · rw [HS.out]
                unfold OwnI
                rw [List.length_append, List.map_append]
                exact hown'
              · exact (hB.alloc (by omega) _).grown hgrow (by simp; omega) (fun q hq => (hown.lt q hq).1)
            case measure => simp [intOf]; omega
        · obtain rfl : k = x.size := by omega
          have hkn : ¬ (x.size : Int) < (x.size : Int) := by omega
          go_wp2_with fail
          go_ret2
          exact ⟨_, rfl, hown.base B2.size, B2.then hB⟩
  · have e1 := codeR1_bad h
    rw [uncoveredR_bad h]
    clear h
    go_enter Tryd.func4, Tryd.ntmps4
    go_wp2_with (go_at_call 9; refine (l09Code1_any x u _ sx su _ (by simp) (by simp [go_sem])).mono ?_; rintro e w1 ⟨rfl, b1⟩)
    go_ret2
    exact ⟨_, rfl, OwnI.nil _ _, (Below.new _ _).then b1⟩

end Go.Proofs.YtkemdiefoohdjaaDoor
