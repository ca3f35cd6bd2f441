/- The borders of a word: the program and the model. -/
import Derived.Test.YtfipbnognjepkaaGreatDoorPers
import Derived.Test.YtfipbnognjepkaaGreatDoorPerRPlain
import Derived.Test.YtfipbnognjepkaaGreatDoorLib
import Derived.Test.YtfipbnognjepkaaGreatDoorWord
namespace Go.Proofs.YtfipbnognjepkaaGreatDoor
set_option linter.unusedVariables false
set_option linter.unusedSimpArgs false
open Go.RowKit

set_option maxRecDepth 100000 in
theorem hasBorder_any (x : ByteArray) (b : Nat) (w : World) (hx : x.size ≤ 60) (hb : b ≤ x.size) :
    Calls Tryz.prog 103 #[.string x, .int .i64 (b : Int)] w fun e w' => e = .returned (.bool (perT (bl x) (x.size - b))) ∧ Below w.heap.size w w' := by
  have hs := suffix_per x b hb
  have HS := Lib.hid hs
  clear hs
  go_enter Tryz.func103, Tryz.ntmps103
  go_wp2_with (go_at_call 150; refine (Tryz.strings_HasSuffix _ _ _ (by omega)).mono ?_; rintro e w1 ⟨rfl, rfl⟩)
  go_ret
  exact ⟨by rw [← HS.out, bl_take]; rfl, Below.refl _ _⟩

set_option maxRecDepth 100000 in
set_option maxHeartbeats 1000000 in
theorem impl_BordersOf (x : ByteArray) (w : World) (sx : x.size ≤ maxLen) :
    Calls Tryz.prog 34 #[.string x] w (RetI (bordersR x).1 (bordersR x).2 w) := by
  obtain ⟨i0, hi, hz0, hz1, hz2⟩ := info_parts infoI64
  by_cases h : IsW x
  · rw [bordersR_ok h]
    have h1 := h.size
    have H := Lib.hid h
    clear h
    go_enter Tryz.func34, Tryz.ntmps34
    go_wp2_with fail
    refine (isWord_yes x _ H.out).mono ?_
    rintro e w1 ⟨rfl, b1⟩
    go_wp2_with fail
    go_loopw [4, 11] (fun v i wr => ∃ k : Nat, k ≤ x.size ∧ i = .int .i64 (k : Int) ∧ OwnI wr w.heap.size v (bordsR (bl x) k) ∧ Below w.heap.size w wr)
      (fun _ i _ => x.size + 1 - (intOf i).toNat)
    case atStart => exact ⟨0, Nat.zero_le _, rfl, OwnI.nil _ _, b1⟩
    case round =>
      obtain ⟨k, hk, rfl, hown, hB⟩ := hrel
      have hbz := hB.size
      have hlen := bordsR_len (bl x) k
      by_cases hp : k < x.size
      · by_cases he : perT (bl x) (x.size - k) = true
        · have hsn := bordsR_hit (bl x) k he
          have HS := Lib.hid hsn
          have HE := Lib.hid he
          clear hsn he
          generalize bordsR (bl x) k = L at hown hlen HS
          go_wp2_with fail
          refine (hasBorder_any x k _ h1 hk).mono ?_
          rw [HE.out]
          rintro e w2 ⟨rfl, b2⟩
          have hown2 := hown.below b2
          have hB2 := hB.then b2
          have hbz2 := hB2.size
          clear hown hB hbz b2
          go_wp2_with (at_builtin; refine wpList_append_own _ rfl _ _ 45 rfl w.heap.size 2 i0 (.int .i64 0) 1 8 Tryz.underlying45 hi hz0 hz1 hz2 rfl (by decide) _ _ _ rfl (hown2.alloc _) ⟨_, 0, none⟩ 1 1 [.int .i64 (k : Int)] rfl rfl (cell_new _ _ _) (by intro u hu; simp at hu; subst hu; rfl) (by unfold maxLen; omega) (by omega) (by simp; omega) ?_; intro v' w3 hown' hgrow _)
          go_roundw
          case rel =>
            refine ⟨k + 1, by omega, by go_num, ?_, ?_⟩
            · unfold OwnI; rw [HS.out, List.length_append, ← map_snoc]; exact hown'
            · exact (hB2.alloc hbz2 _).grown hgrow (by simp; omega) (fun q hq => (hown2.lt q hq).1)
          case measure => simp [intOf]; omega
        · have he2 : perT (bl x) (x.size - k) = false := by simpa using he
          have hsn := bordsR_miss (bl x) k he2
          have HS := Lib.hid hsn
          have HE := Lib.hid he2
          clear hsn he he2
          go_wp2_with fail
          refine (hasBorder_any x k _ h1 hk).mono ?_
          rw [HE.out]
          rintro e w2 ⟨rfl, b2⟩
          go_wp2_with fail
          go_roundw
          case rel => exact ⟨k + 1, by omega, by go_num, by rw [HS.out]; exact hown.below b2, hB.then b2⟩
          case measure => simp [intOf]; omega
      · have hke : k = x.size := by omega
        have HO := Lib.hid hown
        clear hown
        go_wp2
        go_ret2
        rw [← hke]
        exact ⟨_, rfl, HO.out, hB⟩
  · rw [bordersR_bad h]
    have H := Lib.hid h
    clear h
    go_enter Tryz.func34, Tryz.ntmps34
    go_wp2_with fail
    refine (isWord_not x _ sx H.out).mono ?_
    rintro e w1 ⟨rfl, b1⟩
    go_wp2_with fail
    go_ret2
    exact ⟨_, rfl, OwnI.nil _ _, b1⟩

end Go.Proofs.YtfipbnognjepkaaGreatDoor
