/- The different squares of a word: the model. -/
import Derived.Test.YtkemdiefoohdjabGreatWordSet
import Derived.Test.YtkemdiefoohdjabGreatPut
import Derived.Test.YtkemdiefoohdjabGreatPowersS
import Derived.StillTailTactics
namespace Go.Proofs.YtkemdiefoohdjabGreat
set_option linter.unusedVariables false
set_option linter.unusedSimpArgs false
open Go.RowKit

set_option maxRecDepth 100000 in
set_option maxHeartbeats 4000000 in
theorem spec_SquaresOf_ok (x : ByteArray) (w : World) (h : IsW x) :
    Calls Tryz.prog 13 #[.string x] w (RetS (insA ((reps (bl x) (eP 2 0)).map (sqW x))) 0 w) := by
  have hx := h.size
  have H := Lib.hid h
  clear h
  have hmem : ∀ p ∈ reps (bl x) (eP 2 0), 1 ≤ p.2 ∧ p.1 + 2 * p.2 ≤ x.size := fun p hp => by
    have h1 := mem_reps.1 hp
    have h2 := h1.2.1
    have e0 : eP 2 0 p.2 = p.2 := by unfold eP; omega
    rw [e0, bl_len] at h2
    exact ⟨h1.1, by omega⟩
  have hlen := reps_short (l := bl x) (eP 2 0) hx
  have CP := Lib.hid fun w => l03Powers_any x 2 w hx (by omega) (by omega)
  generalize reps (bl x) (eP 2 0) = L at *
  have HM := Lib.hid hmem
  clear hmem
  go_enter Tryz.func13, Tryz.ntmps13
  go_wp2_with fail
  refine (l01Is_yes x _ H.out).mono ?_
  rintro e w0 ⟨rfl, b0⟩
  go_wp2_with fail
  refine (CP.out _).mono ?_
  rintro e w1 ⟨v0, rfl, o1, b1'⟩
  have b1 := b0.then b1'
  clear CP b0 b1'
  by_cases h0 : L = []
  · subst h0
    obtain ⟨a1, c1, rfl⟩ := o1.empty
    go_wp2_with fail
    refine wp_loop_rounds 1 ?_
    rw [rounds_succ]
    go_wp2
    go_ret2
    exact ⟨_, rfl, own_base (World.ownsRow_lit w1 #[] 0 (Nat.le_refl _) (by decide) (by simp)) b1.size, b1.alloc b1.size _⟩
  have hn : 0 < L.length := List.length_pos_iff.2 h0
  obtain ⟨g, cp, us, rfl, hBg, hg, hc, hm, cell, rows, _⟩ := o1.row (by rw [rowsN_len]; exact hn)
  rw [rowsN_len] at hc hm cell ⊢
  have C := Lib.hid cell
  have RW := Lib.hid rows
  have hb1 := b1.size
  clear cell rows o1 h0
  go_wp2_with fail
  go_loopg [5, 6] L.length (fun gg s5 s6 wr => ∃ k gA cap : Nat, k + gg = L.length ∧ s6 = .int .i64 (k : Int) ∧ s5 = .slice (some ⟨gA, 0, none⟩) (insA ((L.take k).map (sqW x))).length cap ∧ OwnS wr w1.heap.size (.slice (some ⟨gA, 0, none⟩) (insA ((L.take k).map (sqW x))).length cap) (insA ((L.take k).map (sqW x))) ∧ Below w1.heap.size w1 wr)
  case atStart => exact ⟨0, w1.heap.size, 0, by omega, rfl, rfl, World.ownsRow_lit w1 #[] 0 (Nat.le_refl _) (by decide) (by simp), Below.new _ _⟩
  case round =>
    obtain ⟨k, gA, cap, hk, rfl, rfl, hown, hB1⟩ := hrel
    by_cases hp : k < L.length
    · obtain ⟨gg, rfl⟩ : ∃ gg, gk = gg + 1 := ⟨gk - 1, by omega⟩
      have k1 : wr.cell? ⟨g, k, none⟩ = some (us.getD k undef) := by rw [(bcell hB1).1 g k hg]; exact C.out k hp
      have hrl := RW.out.1
      rw [rowsN_len] at hrl
      have oI := (RW.out.below hB1).2.1 k (by omega)
      have hrow : (rowsN L).getD k [] = [((L[k]'hp).1 : Int), ((L[k]'hp).2 : Int)] := by rw [getD_at _ _ (by rw [rowsN_len]; exact hp)]; simp [rowsN]
      rw [hrow] at oI
      obtain ⟨gr, cr, hur, _, hgr, hcr, _, cellr, _⟩ := oI.row (by simp)
      have m1 := (HM.out _ (List.getElem_mem hp)).1
      have m2 := (HM.out _ (List.getElem_mem hp)).2
      have HH : Hid (insA ((L.take (k + 1)).map (sqW x)) = insW (insA ((L.take k).map (sqW x))) (sqW x (L[k]'hp))) := Lib.hid (by
        rw [List.take_succ_eq_append_getElem hp, List.map_append, List.map_cons, List.map_nil, insA_snoc])
      have kr0 : wr.cell? ⟨gr, 0, none⟩ = some (.int .i64 ((L[k]'hp).1 : Int)) := cellr 0 (by simp)
      have kr1 : wr.cell? ⟨gr, 1, none⟩ = some (.int .i64 ((L[k]'hp).2 : Int)) := cellr 1 (by simp)
      rw [hur] at k1
      have hcr2 : 2 ≤ cr := hcr
      have hal : (insA ((L.take k).map (sqW x))).length ≤ 3600 := by
        have := insA_len ((L.take k).map (sqW x))
        rw [List.length_map, List.length_take] at this
        omega
      have hasc := asc_insA ((L.take k).map (sqW x))
      generalize insA ((L.take k).map (sqW x)) = A at *
      clear cellr hcr hrl hrow hur oI
      generalize L[k]'hp = p at *
      obtain ⟨i, q⟩ := p
      have hic : k < cp := by omega
      have m2' : i + 2 * q ≤ x.size := m2
      have m1' : 1 ≤ q := m1
      have hes : (sqW x (i, q)).size ≤ 60 := by unfold sqW; simp; omega
      have hsl := fun W => slice_two x (i : Int) ((i : Int) + 2 * (q : Int)) i (i + 2 * q) rfl (by omega) (by omega) m2' W
      have hsl2 : ∀ W, (Instr.slice 9 (.string x) (some (.int .i64 (i : Int))) (some (.int .i64 ((i : Int) + 2 * (q : Int)))) none).run Tryz.prog W = .ok (.string (sqW x (i, q))) W := hsl
      have HPut := Lib.hid fun (hown' : OwnS wr.drew w1.heap.size (.slice (some ⟨gA, 0, none⟩) A.length cap) A) => l01Put_any w1.heap.size gA cap A (sqW x (i, q)) wr.drew hown' hB1.size hasc (by omega) hes
      have HPut2 := Lib.hid (HPut.out hown)
      clear m1 m2 hsl HPut hown hasc
      dsimp only at kr0 kr1
      have k1' : wr.cell? ⟨g, k, none⟩ = some (.slice (some ⟨gr, 0, none⟩) 2 cr) := k1
      clear k1
      generalize sqW x (i, q) = y at *
      have wq1 : IntKind.i64.wrap (2 * (q : Int)) = 2 * (q : Int) := IntWalk.i64_in _ (by omega)
      have wq2 : IntKind.i64.wrap ((i : Int) + 2 * (q : Int)) = (i : Int) + 2 * (q : Int) := IntWalk.i64_in _ (by omega)
      go_wp2
      go_still_tail 23, (by kernel_rfl)
      change wpList _ _ _ _ _ wr.drew
      generalize hwq : wr.drew = wq at *
      go_wp2_with fail
      refine HPut2.out.mono ?_
      rintro e w2 ⟨g2, cap2, rfl, hown2, b2⟩
      subst hwq
      have hB2 : Below w1.heap.size w1 w2 := (hB1.drew).then b2
      go_wp2_with fail
      go_roundg gg
      case measure => omega
      case rel => exact ⟨k + 1, g2, cap2, by omega, by go_num, by rw [HH.out], by rw [HH.out]; exact hown2, hB2⟩
    · obtain rfl : gk = 0 := by omega
      obtain rfl : k = L.length := by omega
      have HO := Lib.hid hown
      clear hown
      go_wp2
      go_ret2
      have h2 := HO.out
      rw [List.take_length] at h2
      refine ⟨_, rfl, ?_, b1.then hB1⟩
      rw [List.take_length]
      exact own_base h2 hb1

set_option maxRecDepth 100000 in
theorem spec_SquaresOf (x : ByteArray) (w : World) (sx : x.size ≤ maxLen) :
    Calls Tryz.prog 13 #[.string x] w (RetS (squaresR x).1 (squaresR x).2 w) := by
  by_cases h : IsW x
  · rw [squaresR_ok h]
    exact spec_SquaresOf_ok x w h
  · rw [squaresR_bad h]
    have H := Lib.hid h
    clear h
    go_enter Tryz.func13, Tryz.ntmps13
    go_wp2_with fail
    refine (l01Is_no x _ sx H.out).mono ?_
    rintro e w1 ⟨rfl, b1⟩
    go_wp2_with fail
    go_ret2
    exact ⟨_, rfl, OwnS.nil _ _, b1⟩

end Go.Proofs.YtkemdiefoohdjabGreat
