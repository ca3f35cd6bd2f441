/- The borders of a word: the program and the model. -/
import Derived.Test.YtlaefpmfbnldfabPers
import Derived.Test.YtlaefpmfbnldfabPerRPlain
import Derived.Test.YtlaefpmfbnldfabLib
import Derived.Test.YtlaefpmfbnldfabWord
namespace Go.Proofs.Ytlaefpmfbnldfab
set_option linter.unusedVariables false
set_option linter.unusedSimpArgs false
open Go.RowKit

set_option maxRecDepth 100000 in
theorem hasBorder_any (x : ByteArray) (b : Nat) (w : World) (hx : x.size ≤ 60) (hb : b ≤ x.size) :
    Calls Try.prog 119 #[.string x, .int .i64 (b : Int)] w fun e w' => e = .returned (.bool (perT (bl x) (x.size - b))) ∧ Below w.heap.size w w' := by
  have hs := suffix_per x b hb
  have HS := Lib.hid hs
  clear hs
  go_enter Try.func119, Try.ntmps119
  go_wp2_with (go_at_call 162; refine (Try.strings_HasSuffix _ _ _ (by omega)).mono ?_; rintro e w1 ⟨rfl, rfl⟩)
  go_ret
  exact ⟨by rw [← HS.out, bl_take]; rfl, Below.refl _ _⟩

set_option maxRecDepth 100000 in
set_option maxHeartbeats 1000000 in
theorem impl_BordersOf (x : ByteArray) (w : World) (sx : x.size ≤ maxLen) :
    Calls Try.prog 18 #[.string x] w (RetI (bordersR x).1 (bordersR x).2 w) := by
  obtain ⟨i0, hi, hz0, hz1, hz2⟩ := info_parts infoI64
  by_cases h : IsW x
  · rw [bordersR_ok h]
    have h1 := h.size
    have H := Lib.hid h
    clear h
    go_enter Try.func18, Try.ntmps18
    go_wp2_with fail
    refine (isWord_yes x _ H.out).mono ?_
    rintro e w1 ⟨rfl, b1⟩
    go_wp2_with fail
    go_loopw [4, 11] (fun v i wr => ∃ k : Nat, k ≤ x.size ∧ i = .int .i64 (k : Int) ∧ OwnI wr w.heap.size v (bordsR (bl x) k) ∧ Below w.heap.size w wr)
      (fun _ i _ => x.size + 1 - (intOf i).toNat)
    case atStart => exact ⟨0, Nat.zero_le _, rfl, OwnI.nil _ _, b1⟩
    case round =>
      obtain ⟨k, hk, rfl, hown, hB⟩ := hrel
      have hbz := hB.size
      have hlen := bordsR_len (bl x) k
      by_cases hp : k < x.size
      · by_cases he : perT (bl x) (x.size - k) = true
        · have hsn := bordsR_hit (bl x) k he
          have HS := Lib.hid hsn
          have HE := Lib.hid he
          clear hsn he
          generalize bordsR (bl x) k = L at hown hlen HS
          go_wp2_with fail
          refine (hasBorder_any x k _ h1 hk).mono ?_
          rw [HE.out]
          rintro e w2 ⟨rfl, b2⟩
          have hown2 := hown.below b2
          have hB2 := hB.then b2
          have hbz2 := hB2.size
          clear hown hB hbz b2
          go_wp2_with (at_builtin; refine wpList_append_own _ rfl _ _ 30 rfl w.heap.size 2 i0 (.int .i64 0) 1 8 Try.underlying30 hi hz0 hz1 hz2 rfl (by decide) _ _ _ rfl (hown2.alloc _) ⟨_, 0, none⟩ 1 1 [.int .i64 (k : Int)] rfl rfl (cell_new _ _ _) (by intro u hu; simp at hu; subst hu; rfl) (by unfold maxLen; omega) (by omega) (by simp; omega) ?_; intro v' w3 hown' hgrow _)
          go_roundw
          case rel =>
            refine ⟨k + 1, by omega, by go_num, ?_, ?_⟩
            · unfold OwnI; rw [HS.out, List.length_append, ← map_snoc]; exact hown'
            · exact (hB2.alloc hbz2 _).grown hgrow (by simp; omega) (fun q hq => (hown2.lt q hq).1)
          case measure => simp [intOf]; omega
        · have he2 : perT (bl x) (x.size - k) = false := by simpa using he
          have hsn := bordsR_miss (bl x) k he2
          have HS := Lib.hid hsn
          have HE := Lib.hid he2
          clear hsn he he2
          go_wp2_with fail
          refine (hasBorder_any x k _ h1 hk).mono ?_
          rw [HE.out]
          rintro e w2 ⟨rfl, b2⟩
          go_wp2_with fail
          go_roundw
          case rel => exact ⟨k + 1, by omega, by go_num, by rw [HS.out]; exact hown.below b2, hB.then b2⟩
          case measure => simp [intOf]; omega
      · have hke : k = x.size := by omega
        have HO := Lib.hid hown
        clear hown
        go_wp2
        go_ret2
        rw [← hke]
        exact ⟨_, rfl, HO.out, hB⟩
  · rw [bordersR_bad h]
    have H := Lib.hid h
    clear h
    go_enter Try.func18, Try.ntmps18
    go_wp2_with fail
    refine (isWord_not x _ sx H.out).mono ?_
    rintro e w1 ⟨rfl, b1⟩
    go_wp2_with fail
    go_ret2
    exact ⟨_, rfl, OwnI.nil _ _, b1⟩

set_option maxRecDepth 100000 in
set_option maxHeartbeats 1000000 in
theorem spec_BordersOf (x : ByteArray) (w : World) (sx : x.size ≤ maxLen) :
    Calls Try.prog 19 #[.string x] w (RetI (bordersR x).1 (bordersR x).2 w) := by
  obtain ⟨i0, hi, hz0, hz1, hz2⟩ := info_parts infoI64
  by_cases h : IsW x
  · rw [bordersR_ok h]
    have h1 := h.size
    have H := Lib.hid h
    clear h
    go_enter Try.func19, Try.ntmps19
    go_wp2_with fail
    refine (l01Is_yes x _ H.out).mono ?_
    rintro e w1 ⟨rfl, b1⟩
    go_wp2_with fail
    refine (l02Periods_any x _ h1).mono ?_
    rintro e w2 ⟨v, rfl, o2, b2⟩
    have B2 := b1.then b2
    have hB2z := B2.size
    have hlp := persR_len (bl x) x.size
    have hmem : ∀ z ∈ persR (bl x) x.size, 1 ≤ z ∧ z ≤ x.size := fun z hz => persR_mem hz
    have hbe := bords_eq (bl x)
    rw [bl_len] at hbe
    have HBE := Lib.hid hbe
    clear hbe b1
    generalize persR (bl x) x.size = P at o2 hlp hmem HBE
    have HM := Lib.hid hmem
    clear hmem
    by_cases h0 : P = []
    · subst h0
      obtain ⟨a1, c1, rfl⟩ := o2.empty
      go_wp2_with fail
      refine wp_loop_rounds 1 ?_
      rw [rounds_succ]
      go_wp2
      go_ret2
      exact ⟨_, rfl, by rw [HBE.out]; exact OwnI.lit0 w2 B2.size, B2.alloc B2.size _⟩
    · have hn : 0 < P.length := List.length_pos_iff.2 h0
      obtain ⟨g, cp, rfl, hBg, hg, hc, hm, cell, _⟩ := o2.row hn
      have C := Lib.hid cell
      clear cell o2 h0
      go_wp2_with fail
      go_loopw [5, 6] (fun v i wr => ∃ k : Nat, k ≤ P.length ∧ i = .int .i64 ((P.length : Int) - 1 - k) ∧ OwnI wr w2.heap.size v ((P.reverse.take k).map fun z => (x.size : Int) - z) ∧ Below w2.heap.size w2 wr)
        (fun _ i _ => (intOf i + 1).toNat)
      case atStart => exact ⟨0, Nat.zero_le _, by simp, OwnI.lit0 w2 (Nat.le_refl _), Below.new _ _⟩
      case round =>
        obtain ⟨k, hk, rfl, hown, hB⟩ := hrel
        have hbz := hB.size
        by_cases hp : k < P.length
        · have hsn := rev_take_snoc P (fun z => (x.size : Int) - z) k hp
          have HS := Lib.hid hsn
          have hlt : (P.reverse.take k).length = k := by rw [List.length_take, List.length_reverse]; omega
          have hlen : ((P.reverse.take k).map fun z => (x.size : Int) - z).length = k := by rw [List.length_map]; exact hlt
          have hz := HM.out (P[P.length - 1 - k]'(by omega)) (List.getElem_mem _)
          have k1 : wr.cell? ⟨g, P.length - 1 - k, none⟩ = some (.int .i64 (P[P.length - 1 - k]'(by omega))) := by rw [(bcell hB).1 g _ hg]; exact C.out _ (by omega)
          clear hsn
          generalize P[P.length - 1 - k]'(by omega) = z at *
          generalize (P.reverse.take k).map (fun z => (x.size : Int) - z) = L at *
          obtain ⟨m, hm⟩ : ∃ m : Nat, (P.length : Int) - 1 - k = m := ⟨P.length - 1 - k, by omega⟩
          have hmn : P.length - 1 - k = m := by omega
          rw [hmn] at k1
          rw [hm]
          have hmc : m < cp := by omega
          go_wp2_with (at_builtin; refine wpList_append_own _ rfl _ _ 30 rfl w2.heap.size 2 i0 (.int .i64 0) 1 8 Try.underlying30 hi hz0 hz1 hz2 rfl (by decide) _ _ _ rfl (hown.alloc _) ⟨_, 0, none⟩ 1 1 [.int .i64 ((x.size : Int) - z)] rfl rfl (cell_new _ _ _) (by intro u hu; simp at hu; subst hu; rfl) (by unfold maxLen; omega) (by omega) (by simp; omega) ?_; intro v' w3 hown' hgrow _)
          go_roundw
          case rel =>
            refine ⟨k + 1, by omega, by go_num, ?_, ?_⟩
            · unfold OwnI; rw [HS.out, List.length_append, ← map_snoc]; exact hown'
            · exact (hB.alloc hbz _).grown hgrow (by simp; omega) (fun q hq => (hown.lt q hq).1)
          case measure => simp [intOf] <;> omega
        · have hke : k = P.length := by omega
          have HO := Lib.hid hown
          have HK := Lib.hid hke
          clear hown
          go_wp2
          go_ret2
          refine ⟨_, rfl, ?_, B2.trans (hB.mono B2.size)⟩
          rw [HBE.out]
          have h2 := HO.out
          rw [HK.out, List.take_of_length_le (by rw [List.length_reverse]; exact Nat.le_refl _)] at h2
          exact h2.base B2.size
  · rw [bordersR_bad h]
    have H := Lib.hid h
    clear h
    go_enter Try.func19, Try.ntmps19
    go_wp2_with fail
    refine (l01Is_no x _ sx H.out).mono ?_
    rintro e w1 ⟨rfl, b1⟩
    go_wp2_with fail
    go_ret2
    exact ⟨_, rfl, OwnI.nil _ _, b1⟩

end Go.Proofs.Ytlaefpmfbnldfab
