/- The library's Reverse, at a slice of numbers that the call made. -/
import Derived.Test.YthjbdcoklgnnlabInts
import Derived.Test.YthjbdcoklgnnlabRevPlain
import Derived.RegionTactic
import Derived.Outline
namespace Go.Proofs.Ythjbdcoklgnnlab
set_option linter.unusedVariables false
set_option linter.unusedSimpArgs false
open Go.RowKit

theorem grown_drew {w w' : World} {r : Option Nat} (h : w.grownBy w' r) : w.grownBy w'.drew r := ⟨h.os, h.tape, h.output, h.size, h.block⟩

set_option maxRecDepth 100000 in
set_option maxHeartbeats 1000000 in
theorem reverseI (B : Nat) (v : Value) (L : List Int) (w : World) (h : OwnI w B v L) (hl : L.length ≤ 4096) :
    Calls Try.prog 138 #[v] w fun e w' => e = .returned (.tuple #[]) ∧ OwnI w' B v L.reverse ∧ w.grownBy w' v.ownBlock := by
  by_cases h0 : L = []
  · subst h0
    obtain ⟨a1, c1, rfl⟩ := h.empty
    have H := Lib.hid h
    clear h
    go_enter Try.func138, Try.ntmps138
    go_wp2
    refine wp_loop_rounds 1 ?_
    rw [rounds_succ]
    go_wp2
    go_end0
    exact ⟨rfl, H.out, grown_refl _ _⟩
  · have hn : 0 < L.length := List.length_pos_iff.2 h0
    obtain ⟨g, c, rfl, hBg, hg, hc, hm, _, _⟩ := h.row hn
    have H := Lib.hid h
    clear h h0
    go_enter Try.func138, Try.ntmps138
    go_wp2
    go_loopw [2, 3] (fun i j wr => ∃ k : Nat, 2 * k ≤ L.length ∧ i = .int .i64 (k : Int) ∧ j = .int .i64 ((L.length : Int) - 1 - k) ∧ wr.ownsRow B 2 1 (.slice (some ⟨g, 0, none⟩) L.length c) L.length ((revK L k).map (Value.int .i64)) ∧ w.grownBy wr (some g))
      (fun i _ _ => L.length - (intOf i).toNat)
    case atStart => exact ⟨0, Nat.zero_le _, rfl, by simp, by have := H.out; unfold OwnI at this; rw [revK_zero]; exact this, grown_refl _ _⟩
    case round =>
      obtain ⟨k, hk, rfl, rfl, hown, hgr⟩ := hrel
      by_cases hp : 2 * k + 1 < L.length
      · obtain ⟨m, hm1⟩ : ∃ m : Nat, (L.length : Int) - 1 - k = m := ⟨L.length - 1 - k, by omega⟩
        have hm2 : L.length - 1 - k = m := by omega
        have hmid := revK_mid L k (by omega) (by omega)
        have hst := hown.stored k (.int .i64 (L.getD m 0))
        have hst2 := hst.1.stored m (.int .i64 (L.getD k 0))
        have hstep := revK_step L k hp
        rw [hm2] at hstep
        rw [hstep] at hst2
        have k1 : wr.cell? ⟨g, k, none⟩ = some (.int .i64 (L.getD k 0)) := by
          rw [hown.cellAt k (by omega), List.getElem?_map, List.getElem?_eq_getElem (by rw [revK_len]; omega), hmid.1]; rfl
        have k2 : wr.cell? ⟨g, m, none⟩ = some (.int .i64 (L.getD m 0)) := by
          rw [hown.cellAt m (by omega), List.getElem?_map, List.getElem?_eq_getElem (by rw [revK_len]; omega)]
          have := hmid.2
          simp only [hm2] at this
          rw [this]; rfl
        have f1 : wr.frozen? ⟨g, k, none⟩ = false := hown.frozenAt k
        have f2 : wr.frozen? ⟨g, m, none⟩ = false := hown.frozenAt m
        have HS := Lib.hid hst2
        have hkm : (k : Int) < (m : Int) := by omega
        have hkc : (k : Int) < (L.length : Int) := by omega
        have hmc : (m : Int) < (L.length : Int) := by omega
        rw [hm1]
        generalize L.getD k 0 = a at *
        generalize L.getD m 0 = b at *
        clear hst hst2 hstep hmid hown
        go_wp2_with fail
        go_region
        go_wp2
        have hgr2 := grown_drew (grown_set (grown_set hgr k (.int .i64 b)) m (.int .i64 a))
        go_roundw
        case rel => exact ⟨k + 1, by omega, by go_num, by congr 1; omega, HS.out.1, hgr2⟩
        case measure => simp [intOf] <;> omega
      · have hke := revK_end L k (by omega)
        have HO := Lib.hid hown
        have HK := Lib.hid hke
        have hp2 : ¬ (k : Int) < (L.length : Int) - 1 - k := by omega
        clear hown hke
        go_wp2
        go_end0
        refine ⟨rfl, ?_, hgr⟩
        have h2 := HO.out
        rw [HK.out] at h2
        unfold OwnI
        rw [List.length_reverse]
        exact h2

end Go.Proofs.Ythjbdcoklgnnlab
