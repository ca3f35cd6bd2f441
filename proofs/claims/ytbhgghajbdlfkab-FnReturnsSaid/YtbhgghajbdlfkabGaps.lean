/- The gaps of a factor: the program. -/
import Derived.Test.YtbhgghajbdlfkabPlacesI
import Derived.Test.YtbhgghajbdlfkabGapPlain
import Derived.Deep.RegionHeld3
import Derived.Deep.AppendLies
import Derived.IntWalk
namespace Go.Proofs.Ytbhgghajbdlfkab
set_option linter.unusedVariables false
set_option linter.unusedSimpArgs false
open Go.RowKit

theorem OwnI.formG {w : World} {B : Nat} {v : Value} {L : List Int} (h : OwnI w B v L) : ∃ a c, v = .slice a L.length c := by
  rcases own_forms h with ⟨rfl, h0, _⟩ | ⟨g, cap, rfl, _⟩
  · exact ⟨_, _, by rw [h0]⟩
  · exact ⟨_, _, rfl⟩
theorem OwnI.lookG {w : World} {B : Nat} {v : Value} {L : List Int} (h : OwnI w B v L) : ∃ ad cap, v = .slice ad L.length cap ∧ ∀ j (hj : j < L.length), ∃ g, ad = some ⟨g, 0, none⟩ ∧ B ≤ g ∧ g < w.heap.size ∧ j < cap ∧ w.cell? ⟨g, j, none⟩ = some (.int .i64 (L[j]'hj)) := by
  rcases own_forms h with ⟨rfl, h0, _⟩ | ⟨g, cap, rfl, hb, hg, hc, _, hk, _⟩
  · exact ⟨_, _, by rw [h0], fun j hj => by omega⟩
  · refine ⟨_, _, rfl, fun j hj => ⟨g, rfl, hb, hg, by omega, ?_⟩⟩
    rw [hk j hj]
    simp [hj]

set_option maxRecDepth 100000 in
set_option maxHeartbeats 1000000 in
theorem gapsBetween_any (P : List Int) (B : Nat) (v : Value) (w : World) (hv : OwnI w B v P) (hl : P.length ≤ 100) (hP : ∀ z ∈ P, -1 ≤ z ∧ z ≤ 61) :
    Calls Try.prog 70 #[v] w fun e w' => ∃ u, e = .returned u ∧ OwnI w' w.heap.size u (gapsOf P) ∧ Below w.heap.size w w' := by
  obtain ⟨i0, hi, hz0, hz1, hz2⟩ := info_parts infoI64
  have hmo : Try.prog.follows .mixedOrders = true := by kernel_rfl
  by_cases h0 : P = []
  · subst h0
    obtain ⟨a, c, rfl⟩ := hv.empty
    clear hv
    go_enter Try.func70, Try.ntmps70
    go_wp2
    refine wp_loop_rounds 1 ?_
    rw [rounds_succ]
    go_wp2
    go_ret
    exact ⟨_, rfl, OwnI.nil _ _, Below.refl _ _⟩
  · have hn : 0 < P.length := List.length_pos_iff.2 h0
    obtain ⟨g, c, rfl, hBg, hg, hc, hm, cell, _⟩ := hv.row hn
    have C := Lib.hid cell
    have HP := Lib.hid hP
    clear hv h0 cell hP
    go_enter Try.func70, Try.ntmps70
    go_wp2
    go_loopw [3, 4] (fun o i wr => ∃ j : Nat, j + 1 ≤ P.length ∧ i = .int .i64 ((j : Int) + 1) ∧ wr.ownsRow w.heap.size 2 1 o j (((gapsOf P).take j).map (Value.int .i64)) ∧ Below w.heap.size w wr)
      (fun _ i _ => P.length - (intOf i).toNat)
    case atStart =>
      exact ⟨0, hn, by simp, World.ownsRow_nil _ _ _ _, Below.refl _ _⟩
    case round =>
      obtain ⟨j, hj, rfl, hown, hB⟩ := hrel
      have hbz := hB.size
      by_cases hp : j + 1 < P.length
      · have k0 : wr.cell? ⟨g, j, none⟩ = some (.int .i64 (P[j]'(by omega))) := by rw [(bcell hB).1 g j hg]; exact C.out j (by omega)
        have k1 : wr.cell? ⟨g, j + 1, none⟩ = some (.int .i64 (P[j + 1]'hp)) := by rw [(bcell hB).1 g (j + 1) hg]; exact C.out (j + 1) hp
        have HS := Lib.hid (gapsOf_take P j hp)
        have p0 := HP.out _ (List.getElem_mem (show j < P.length by omega))
        have p1 := HP.out _ (List.getElem_mem hp)
        have hgl : ((gapsOf P).take j).length = j := by rw [List.length_take, gapsOf_len]; omega
        have HGL := Lib.hid hgl
        clear hgl
        generalize P[j]'(by omega) = a at *
        generalize P[j + 1]'hp = b at *
        have hjc : j < c := by omega
        have hjc1 : j + 1 < c := by omega
        have hpi : (j : Int) + 1 < (P.length : Int) := by omega
        have hpj : (j : Int) < (P.length : Int) := by omega
        have hpn : j < P.length := by omega
        have e0 : (0 : Int) ≤ (j : Int) + 1 := by omega
        have e1 : ((j : Int) + 1).toNat = j + 1 := by omega
        have wq1 : IntKind.i64.wrap (j : Int) = (j : Int) := IntWalk.i64_in _ (by omega)
        have wq2 : IntKind.i64.wrap (b - a) = b - a := IntWalk.i64_in _ (by omega)
        have hgw : g < wr.heap.size := by omega
        have hne : u3.ownBlock ≠ some g := fun e => by have := (hown.lt g e).1; omega
        go_wp2_with fail
        go_region_held3 (fun w' => w'.cell? ⟨g, j, none⟩ = some (.int .i64 a) ∧ w'.cell? ⟨g, j + 1, none⟩ = some (.int .i64 b))
          (first | go_keep | (go_split_ands; refine ⟨?_, ?_⟩ <;> (rw [hgrow.cell_far _ (by simp; omega) (Ne.symm hne)]; assumption)))
          ((refine step_append_lies _ (by rfl) _ _ _ (by rfl) w.heap.size 2 i0 _ 1 8 Try.underlying41 hi hz0 hz1 hz2 rfl (by omega) u3 j (((gapsOf P).take j).map (Value.int .i64)) (by rfl) ((hown.alloc _).drew) ⟨wr.heap.size, 0, none⟩ 1 1 [.int .i64 (b - a)] (by rfl) (by rfl) (World.news_of_block (cs := #[.int .i64 (b - a)]) (t := 2) (fr := (0, 0)) (heap_alloc_new wr _)) (by simp [Value.oneCell']) (by omega) (by unfold maxLen; omega) (by omega) (by simp; omega) (wr.heap.size + 1) (by simp) ?_; intro gg cap w3 hown' hgrow hat hlt))
        go_wp2
        go_roundw
        case rel =>
          refine ⟨j + 1, by omega, by go_num, ?_, ?_⟩
          · rw [HS.out, List.map_append]; exact hown'
          · exact ((hB.drew).alloc hbz _).grown hgrow (by simp; omega) (fun q hq => (hown.lt q hq).1)
        case measure => simp [intOf]; omega
      · have hje : j = P.length - 1 := by omega
        have hpi : ¬ (j : Int) + 1 < (P.length : Int) := by omega
        have HO := Lib.hid hown
        clear hown
        go_wp2
        go_ret
        refine ⟨_, rfl, ?_, hB⟩
        have h2 := HO.out
        have h3 : (gapsOf P).take j = gapsOf P := List.take_of_length_le (by rw [gapsOf_len]; omega)
        rw [h3] at h2
        unfold OwnI
        rw [gapsOf_len, ← hje]
        exact h2

end Go.Proofs.Ytbhgghajbdlfkab
