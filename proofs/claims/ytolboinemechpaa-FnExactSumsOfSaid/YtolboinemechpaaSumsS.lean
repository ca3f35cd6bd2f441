/- The sums of factors: the model. -/
import Derived.Test.YtolboinemechpaaSumPlain
import Derived.Test.YtolboinemechpaaNumbers
import Derived.Test.YtolboinemechpaaTurn
import Derived.Test.YtolboinemechpaaRows2
import Derived.Deep.LoopGhost
namespace Go.Proofs.Ytolboinemechpaa
set_option linter.unusedVariables false
set_option linter.unusedSimpArgs false
open Go.RowKit

theorem infoBool : (Try.prog.info? 4).map (fun i => (i.zero, i.size, i.bytes)) = some (some (.bool false), 1, 1) := by kernel_rfl

/-- Which numbers have been met. -/
def metL (S : List Nat) : List Value := (List.range 300).map fun s => Value.bool (decide (s ∈ S))
theorem metL_len (S : List Nat) : (metL S).length = 300 := by simp [metL]
theorem metL_get (S : List Nat) (s : Nat) (h : s < 300) : (metL S)[s]? = some (.bool (decide (s ∈ S))) := by simp [metL, h]
theorem metL_nil : metL [] = List.replicate 300 (.bool false) := by
  unfold metL
  rw [List.eq_replicate_iff]
  refine ⟨by rw [List.length_map, List.length_range], fun b hb => ?_⟩
  obtain ⟨s, _, rfl⟩ := List.mem_map.1 hb
  congr 1
theorem metL_set (S : List Nat) (s : Nat) (h : s < 300) : (metL S).set s (.bool true) = metL (S ++ [s]) := by
  apply List.ext_getElem
  · simp [metL]
  · intro i h1 h2
    rw [List.getElem_set]
    by_cases e : s = i
    · subst e; simp [metL]
    · rw [if_neg e]
      simp only [metL, List.getElem_map, List.getElem_range]
      congr 1
      have : i ∈ S ++ [s] ↔ i ∈ S := by
        rw [List.mem_append, List.mem_singleton]
        exact ⟨fun h => h.resolve_right (fun q => e q.symm), .inl⟩
      simp [this]
/-- The sum of the first k letters behind the place i. -/
def sumAt (x : ByteArray) (i k : Nat) : Nat := sumL (((bl x).drop i).take k)
theorem sumAt_zero (x : ByteArray) (i : Nat) : sumAt x i 0 = 0 := by unfold sumAt; rw [List.take_zero]; rfl
theorem sumAt_succ {x : ByteArray} (h : IsW x) {i k : Nat} (hk : i + k < x.size) : (sumAt x i (k + 1) : Int) = (sumAt x i k : Int) + (((x[i + k]'hk).toNat : Int) - 97) := by
  unfold sumAt
  have hl : k < ((bl x).drop i).length := by rw [List.length_drop, bl_len]; omega
  rw [sumL_take hl]
  have h1 : ((bl x).drop i)[k]'hl = x[i + k]'hk := by rw [List.getElem_drop]; rfl
  rw [h1]
  have := h.lo _ hk
  omega
theorem sumAt_le {x : ByteArray} (h : IsW x) (i k : Nat) : sumAt x i k ≤ 240 := by
  have h1 := sumL_le (((bl x).drop i).take k) fun c hc => (h.mem (List.mem_of_mem_drop (List.mem_of_mem_take hc))).2
  rw [List.length_take, List.length_drop, bl_len] at h1
  have := h.size
  unfold sumAt
  omega
theorem smsN_at (x : ByteArray) (m N : Nat) : smsN x m (N + 1) = smsN x m N ++ [sumAt x N m] := by
  rw [smsN_snoc, bl_extract, Nat.add_sub_cancel_left]
  rfl

set_option maxRecDepth 100000 in
set_option maxHeartbeats 4000000 in
theorem spec_SumsOf_ok (x : ByteArray) (m : Nat) (w : World) (h : IsW x) (hm : m ≤ 60) :
    Calls Try.prog 47 #[.string x, .int .i64 (m : Int)] w (RetI (asc (smsN x m (x.size + 1 - m)) 300) 0 w) := by
  obtain ⟨i0, hi, hz0, hz1, hz2⟩ := info_parts infoI64
  obtain ⟨j0, hj, hy0, hy1, hy2⟩ := info_parts infoBool
  have H := Lib.hid h
  have hx := h.size
  clear h
  go_enter Try.func47, Try.ntmps47
  go_wp2_with fail
  refine (l01Is_yes x _ H.out).mono ?_
  rintro e w1 ⟨rfl, b1⟩
  go_wp2_with fail
  refine (l01In_yes _ _ _ _ (by omega) (by omega)).mono ?_
  rintro e w2 ⟨rfl, b2⟩
  have B2 := b1.then b2
  have hb2 := B2.size
  clear b1 b2
  go_wp2_with (at_make; refine wpList_make_full _ rfl _ _ 76 rfl w.heap.size 4 j0 (.bool false) 1 Try.underlying76 hj hy0 hy1 .i64 .i64 300 300 300 rfl rfl rfl rfl (by rw [hy2]; decide) (by decide) hb2 ?_; intro w3 hown hgrow)
  obtain ⟨N, hN⟩ : ∃ N, x.size + 1 - m = N := ⟨_, rfl⟩
  have hN61 : N ≤ 61 := by omega
  have hown0 : w3.ownsRow w.heap.size 4 1 (.slice (some ⟨w2.heap.size, 0, none⟩) 300 300) 300 (metL (smsN x m 0)) := by
    have h2 := hown
    rw [show (Value.bool false).cells = #[Value.bool false] from rfl, toList_madeCells_one] at h2
    rw [show smsN x m 0 = [] from rfl, metL_nil]
    exact h2
  clear hown
  have B3 : Below w.heap.size w w3 := B2.grown hgrow hb2 (fun _ e => by cases e)
  have hz3 : w2.heap.size < w3.heap.size := by
    rcases own_forms hown0 with ⟨h, _⟩ | ⟨g, cap, h, _, h3, _⟩
    · cases h
    · cases h; exact h3
  clear hgrow
  generalize hG : w2.heap.size = G at *
  clear hG
  go_wp2_with fail
  have h70 : OwnI (w3.alloc (.cells #[] 2)) (G + 1) (.slice (some ⟨w3.heap.size, 0, none⟩) 0 0) [] := OwnI.lit0 w3 (by omega)
  have hownA := hown0.alloc (.cells #[] 2)
  have B4 := B3.alloc B3.size (.cells #[] 2)
  have hsA : w3.heap.size < (w3.alloc (.cells #[] 2)).heap.size := by simp
  generalize w3.alloc (.cells #[] 2) = wA at *
  clear hown0 B3
  go_loopw [8] (fun s8 wr => ∃ i : Nat, i ≤ N ∧ s8 = .int .i64 (i : Int) ∧ wr.ownsRow w.heap.size 4 1 (.slice (some ⟨G, 0, none⟩) 300 300) 300 (metL (smsN x m i)) ∧ OwnI wr (G + 1) (.slice (some ⟨w3.heap.size, 0, none⟩) 0 0) [] ∧ Below w.heap.size w wr)
    (fun s8 _ => 61 - (intOf s8).toNat)
  case atStart => exact ⟨0, Nat.zero_le _, rfl, hownA, h70, B4⟩
  case round =>
    clear hownA h70 B4
    obtain ⟨i, hi1, rfl, hown, h7, hB⟩ := hrel
    by_cases hp : i < N
    · have hpx : (i : Int) + (m : Int) ≤ (x.size : Int) := by omega
      go_wp2_with fail
      go_loopw [9, 10] (fun s9 s10 wr2 => ∃ k : Nat, k ≤ m ∧ s9 = .int .i64 (sumAt x i k : Int) ∧ s10 = .int .i64 ((i + k : Nat) : Int) ∧ wr2.ownsRow w.heap.size 4 1 (.slice (some ⟨G, 0, none⟩) 300 300) 300 (metL (smsN x m i)) ∧ OwnI wr2 (G + 1) (.slice (some ⟨w3.heap.size, 0, none⟩) 0 0) [] ∧ Below w.heap.size w wr2)
        (fun _ s10 _ => i + m - (intOf s10).toNat)
      case atStart => exact ⟨0, Nat.zero_le _, by rw [sumAt_zero]; rfl, rfl, hown, h7, hB⟩
      case round =>
        clear hown h7 hB
        obtain ⟨k, hk, rfl, rfl, hown, h7, hB⟩ := hrel
        have hle := sumAt_le H.out i k
        by_cases hq : k < m
        · have hqd : ((i + k : Nat) : Int) < (i : Int) + (m : Int) := by omega
          have hkx : i + k < x.size := by omega
          have hsc := sumAt_succ H.out hkx
          have hlo := H.out.lo _ hkx
          have hhi := H.out.hi _ hkx
          have CA := Lib.hid fun W => l01At_any x (i + k) W hkx hx
          have wq : IntKind.i64.wrap ((sumAt x i k : Int) + (((x[i + k]'hkx).toNat : Int) - 97)) = (sumAt x i (k + 1) : Int) := (IntWalk.i64_in _ (by have := sumAt_le H.out i (k + 1); omega)).trans hsc.symm
          go_wp2_with fail
          refine (CA.out _).mono ?_
          rintro e w5 ⟨rfl, b5⟩
          go_wp2_with fail
          refine ⟨⟨k + 1, by omega, by rw [hsc], by go_num, own_below hown b5, own_below h7 b5, hB.then b5⟩, ?_⟩
          simp [intOf]
          omega
        · obtain rfl : k = m := by omega
          have hqd : ¬ ((i + k : Nat) : Int) < (i : Int) + (k : Int) := by omega
          have hsa := smsN_at x k i
          have hst := hown.stored (sumAt x i k) (.bool true)
          rw [metL_set _ _ (by omega), ← hsa] at hst
          have k1 : wr.cell? ⟨G, sumAt x i k, none⟩ = some (.bool (decide (sumAt x i k ∈ smsN x k i))) := by
            rw [hown.cellAt _ (by omega)]
            exact metL_get _ _ (by omega)
          have k2 : wr.frozen? ⟨G, sumAt x i k, none⟩ = false := hown.frozenAt _
          have hss : sumAt x i k < 300 := by omega
          have hg := grown_set (grown_refl wr (some G)) (sumAt x i k) (.bool true)
          have h72 := World.ownsRow.kept h7 hg (.inr (by simp [Value.ownBlock]; omega))
          have hBB := hB.grown hg hB.size (fun q e => by cases e; omega)
          have HST := Lib.hid hst
          obtain ⟨S1, hS1⟩ : ∃ S1, smsN x k (i + 1) = S1 := ⟨_, rfl⟩
          rw [hS1] at hst
          have HS1 := Lib.hid hS1
          clear hS1
          generalize sumAt x i k = s1 at *
          have E1 := Lib.hid hst
          have E2 := Lib.hid h72
          have E3 := Lib.hid hBB
          clear hst h72 hBB hg hsa
          go_wp2_with fail
          refine ⟨⟨i + 1, by omega, by go_num, ?_, E2.out, E3.out⟩, ?_⟩
          · rw [HS1.out]; exact E1.out.1
          · simp [intOf]; omega
    · obtain rfl : i = N := by omega
      have hpx : ¬ (i : Int) + (m : Int) ≤ (x.size : Int) := by omega
      have hSle : ∀ s ∈ smsN x m i, s ≤ 240 := smsN_le H.out m i
      have hSe : smsN x m (x.size + 1 - m) = smsN x m i := by rw [hN]
      have HSE := Lib.hid hSe
      clear hSe
      generalize smsN x m i = S at *
      go_wp2_with fail
      go_loopw [7, 11] (fun s7 s11 wr3 => ∃ j : Nat, j ≤ 300 ∧ s11 = .int .i64 (j : Int) ∧ wr3.ownsRow w.heap.size 4 1 (.slice (some ⟨G, 0, none⟩) 300 300) 300 (metL S) ∧ OwnI wr3 (G + 1) s7 (asc S j) ∧ Below w.heap.size w wr3)
        (fun _ s11 _ => 300 - (intOf s11).toNat)
      case atStart => exact ⟨0, Nat.zero_le _, rfl, hown, by rw [asc_zero]; exact h7, hB⟩
      case round =>
        clear hown h7 hB
        obtain ⟨j, hj3, rfl, hown, h7, hB⟩ := hrel
        by_cases hq : j < 300
        · have hqd : (j : Int) < 300 := by omega
          have k1 : wr.cell? ⟨G, j, none⟩ = some (.bool (decide (j ∈ S))) := by
            rw [hown.cellAt _ (by omega)]
            exact metL_get _ _ (by omega)
          by_cases hm2 : j ∈ S
          · have hah := asc_hit hm2
            simp only [hm2, decide_true] at k1
            have h7r : wr.ownsRow (G + 1) 2 1 _ (asc S j).length _ := h7
            have hal := asc_len S j
            have hbz := hB.size
            go_wp2_with (at_builtin; refine wpList_append_own _ rfl _ _ 30 rfl (G + 1) 2 i0 (.int .i64 0) 1 8 Try.underlying30 hi hz0 hz1 hz2 rfl (by decide) _ _ _ rfl (h7r.alloc _) ⟨_, 0, none⟩ 1 1 [.int .i64 (j : Int)] rfl rfl (cell_new _ _ _) (by intro u hu; simp at hu; subst hu; rfl) (by unfold maxLen; omega) (by omega) (by have := hown.lt G rfl; simp; omega) ?_; intro v' w4 hown' hgrow _)
            have hgne : (some G : Option Nat) ≠ u7.ownBlock := fun e => by have := (h7r.lt G e.symm).1; omega
            refine ⟨⟨j + 1, by omega, by go_num, World.ownsRow.kept (hown.alloc _) hgrow (.inr hgne), ?_, ?_⟩, ?_⟩
            · rw [hah]
              unfold OwnI
              rw [List.length_append, List.map_append]
              exact hown'
            · exact (hB.alloc hB.size _).grown hgrow (by simp; omega) (fun q hq => by have := (h7r.lt q hq).1; have := (hown.lt G rfl).1; omega)
            · simp [intOf]; omega
          · have hah := asc_miss hm2
            simp only [hm2, decide_false] at k1
            go_wp2_with fail
            refine ⟨⟨j + 1, by omega, by go_num, hown, by rw [hah]; exact h7, hB⟩, ?_⟩
            simp [intOf]; omega
        · obtain rfl : j = 300 := by omega
          go_wp2_with fail
          go_ret2
          rw [HSE.out]
          exact ⟨_, rfl, own_base h7 (by have := (hown.lt G rfl).1; omega), hB⟩

set_option maxRecDepth 100000 in
theorem spec_SumsOf (x : ByteArray) (m : Int) (w : World) (sx : x.size ≤ maxLen) (wm : (Lit.int .i64 m).wf = true) :
    Calls Try.prog 47 #[.string x, .int .i64 m] w (RetI (sumsR x m).1 (sumsR x m).2 w) := by
  by_cases h : IsW x
  · by_cases hk : m < 0 ∨ 60 < m
    · rw [sumsR_out h hk]
      have H := Lib.hid h
      clear h
      have CI := Lib.hid fun W => l01In_no m 0 60 W (by omega)
      go_enter Try.func47, Try.ntmps47
      go_wp2_with fail
      refine (l01Is_yes x _ H.out).mono ?_
      rintro e w1 ⟨rfl, b1⟩
      go_wp2_with fail
      refine (CI.out _).mono ?_
      rintro e w2 ⟨rfl, b2⟩
      go_wp2_with fail
      go_ret2
      exact ⟨_, rfl, OwnI.nil _ _, b1.then b2⟩
    · obtain ⟨n, rfl⟩ := Int.eq_ofNat_of_zero_le (show 0 ≤ m by omega)
      have e := sumsR_ok h hk
      rw [e]
      exact spec_SumsOf_ok x n w h (by omega)
  · rw [sumsR_bad h]
    have H := Lib.hid h
    clear h
    go_enter Try.func47, Try.ntmps47
    go_wp2_with fail
    refine (l01Is_no x _ sx H.out).mono ?_
    rintro e w1 ⟨rfl, b1⟩
    go_wp2_with fail
    go_ret2
    exact ⟨_, rfl, OwnI.nil _ _, b1⟩

end Go.Proofs.Ytolboinemechpaa
