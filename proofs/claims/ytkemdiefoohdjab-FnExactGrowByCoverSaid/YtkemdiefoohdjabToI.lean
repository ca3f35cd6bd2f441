/- A list of numbers that came in, copied. -/
import Derived.Test.YtkemdiefoohdjabInts
import Derived.Test.YtkemdiefoohdjabIsRow
namespace Go.Proofs.Ytkemdiefoohdjab
set_option linter.unusedVariables false
set_option linter.unusedSimpArgs false
open Go.RowKit

def cpk (zs : List Int) (len k : Nat) : List Int := zs.take k ++ List.replicate (len - k) 0
theorem cpk_zero (zs : List Int) (len : Nat) : cpk zs len 0 = List.replicate len 0 := by simp [cpk]
theorem cpk_len (zs : List Int) (len k : Nat) (h : k ≤ len) (h2 : len ≤ zs.length) : (cpk zs len k).length = len := by simp [cpk]; omega
theorem cpk_step (zs : List Int) (len k : Nat) (h : k < len) (h2 : len ≤ zs.length) : ((cpk zs len k).map (Value.int .i64)).set k (.int .i64 (zs.getD k 0)) = (cpk zs len (k + 1)).map (Value.int .i64) := by
  apply List.ext_getElem
  · simp [cpk]; omega
  · intro i h3 h4
    simp only [List.getElem_set, List.getElem_map]
    have hk : (zs.take k).length = k := by simp; omega
    have hk1 : (zs.take (k + 1)).length = k + 1 := by simp; omega
    by_cases e : k = i
    · subst e
      rw [if_pos rfl]
      congr 1
      unfold cpk
      rw [List.getElem_append_left (by omega), List.getElem_take]
      simp [List.getD_eq_getElem?_getD, List.getElem?_eq_getElem (show k < zs.length by omega)]
    · rw [if_neg e]
      congr 1
      unfold cpk
      simp only [List.getElem_append, hk, hk1]
      by_cases h5 : i < k
      · rw [dif_pos h5, dif_pos (by omega)]
        simp
      · rw [dif_neg h5, dif_neg (by omega)]
        simp
theorem cpk_end (zs : List Int) (len : Nat) : cpk zs len len = zs.take len := by simp [cpk]

set_option maxRecDepth 100000 in
set_option maxHeartbeats 1000000 in
theorem toI_any (a : Option Addr) (len cap : Nat) (zs : List Int) (w : World) (h : IsRow .i64 w a len cap zs) (hl : len ≤ 1048576) :
    Calls Try.prog 8 #[.slice a len cap] w fun e w' => ∃ v, e = .returned v ∧ OwnI w' w.heap.size v (zs.take len) ∧ Below w.heap.size w w' := by
  obtain ⟨i0, hi, hz0, hz1, hz2⟩ := info_parts infoI64
  rcases h with ⟨rfl, rfl, rfl, rfl⟩ | ⟨x, rfl, hlc, hcm, hzl, hcell, hwf⟩
  · go_enter Try.func8, Try.ntmps8
    go_wp2_with (at_make; refine wpList_make_full _ rfl _ _ 22 rfl w.heap.size 2 i0 (.int .i64 0) 1 Try.underlying22 hi hz0 hz1 .i64 .i64 0 0 0 rfl rfl rfl rfl (by rw [hz2]; decide) (by decide) (Nat.le_refl _) ?_; intro w1 hown hgrow)
    refine wp_loop_rounds 1 ?_
    rw [rounds_succ]
    have HO := Lib.hid hown
    have HG := Lib.hid hgrow
    clear hown hgrow
    go_wp2
    go_ret
    have h2 : OwnI w1 w.heap.size (.slice (some ⟨w.heap.size, 0, none⟩) 0 0) [] := by
      have h3 := HO.out
      rw [show (Value.int .i64 0).cells = #[Value.int .i64 0] from rfl, toList_madeCells_one] at h3
      exact h3
    exact ⟨_, rfl, h2, (Below.refl _ _).grown HG.out (Nat.le_refl _) (fun _ e => by cases e)⟩
  · have HC := Lib.hid hcell
    have hlen : len ≤ zs.length := by omega
    clear hcell hwf
    go_enter Try.func8, Try.ntmps8
    go_wp2_with (at_make; refine wpList_make_full _ rfl _ _ 22 rfl w.heap.size 2 i0 (.int .i64 0) 1 Try.underlying22 hi hz0 hz1 .i64 .i64 len len len rfl rfl rfl rfl (by rw [hz2]; omega) (by unfold maxLen; omega) (Nat.le_refl _) ?_; intro w1 hown hgrow)
    have hown0 : w1.ownsRow w.heap.size 2 1 (.slice (some ⟨w.heap.size, 0, none⟩) len len) len ((cpk zs len 0).map (Value.int .i64)) := by
      have h2 := hown
      rw [show (Value.int .i64 0).cells = #[Value.int .i64 0] from rfl, toList_madeCells_one, Nat.mul_one] at h2
      rw [cpk_zero, List.map_replicate]
      exact h2
    have B1 : Below w.heap.size w w1 := (Below.refl _ _).grown hgrow (Nat.le_refl _) (fun _ e => by cases e)
    clear hown hgrow
    go_loopw [4] (fun i wr => ∃ k : Nat, k ≤ len ∧ i = .int .i64 k ∧ wr.ownsRow w.heap.size 2 1 (.slice (some ⟨w.heap.size, 0, none⟩) len len) len ((cpk zs len k).map (Value.int .i64)) ∧ Below w.heap.size w wr)
      (fun i _ => len - (intOf i).toNat)
    case atStart => exact ⟨0, Nat.zero_le _, rfl, hown0, B1⟩
    case round =>
      obtain ⟨k, hk, rfl, hown, hB⟩ := hrel
      clear hown0 B1
      by_cases hp : k < len
      · have hc := HC.out k (by omega)
        have k0 : wr.cell? (x.add k) = some (.int .i64 (zs.getD k 0)) := by
          rw [hB.cell (World.block_lt_of_cell? _ _ hc)]; exact hc
        have hcl := cpk_len zs len k hk hlen
        have k1 : wr.cell? ⟨w.heap.size, k, none⟩ = some (.int .i64 ((cpk zs len k).getD k 0)) := by
          rw [hown.cellAt k (by omega)]
          simp [List.getD_eq_getElem?_getD, List.getElem?_eq_getElem (show k < (cpk zs len k).length by omega)]
        have k2 : wr.frozen? ⟨w.heap.size, k, none⟩ = false := hown.frozenAt k
        have hst := hown.stored k (.int .i64 (zs.getD k 0))
        rw [cpk_step zs len k hp hlen] at hst
        generalize (cpk zs len k).getD k 0 = y at k1
        generalize zs.getD k 0 = z at k0 hst
        have HS := Lib.hid hst
        have hkc : k < cap := by omega
        clear hst hown hc hcl
        go_wp2
        go_roundw
        case rel => exact ⟨k + 1, by omega, by go_num, HS.out.1, hB.setCell (p := ⟨w.heap.size, k, none⟩) (Nat.le_refl _) _⟩
        case measure => simp [intOf]; omega
      · have hke : k = len := by omega
        subst hke
        have HO := Lib.hid hown
        clear hown
        go_wp2
        go_ret
        refine ⟨_, rfl, ?_, hB⟩
        have h2 := HO.out
        rw [cpk_end] at h2
        unfold OwnI
        rw [show (zs.take k).length = k by simp; omega]
        exact h2

end Go.Proofs.Ytkemdiefoohdjab
