/- The periods of a word: the program and the model. -/
import Derived.Test.YthjbdcoklgnnlabBorders
import Derived.Test.YthjbdcoklgnnlabReverse64
namespace Go.Proofs.Ythjbdcoklgnnlab
set_option linter.unusedVariables false
set_option linter.unusedSimpArgs false
open Go.RowKit

set_option maxRecDepth 100000 in
set_option maxHeartbeats 1000000 in
theorem spec_PeriodsOf (x : ByteArray) (w : World) (sx : x.size ≤ maxLen) :
    Calls Try.prog 80 #[.string x] w (RetI (periodsR x).1 (periodsR x).2 w) := by
  by_cases h : IsW x
  · rw [periodsR_ok h]
    have h1 := h.size
    have H := Lib.hid h
    clear h
    go_enter Try.func80, Try.ntmps80
    go_wp2_with fail
    refine (l01Is_yes x _ H.out).mono ?_
    rintro e w1 ⟨rfl, b1⟩
    go_wp2_with fail
    refine (l02Periods_any x _ h1).mono ?_
    rintro e w2 ⟨v, rfl, o2, b2⟩
    go_wp2_with fail
    go_ret2
    exact ⟨v, rfl, o2.base b1.size, b1.then b2⟩
  · rw [periodsR_bad h]
    have H := Lib.hid h
    clear h
    go_enter Try.func80, Try.ntmps80
    go_wp2_with fail
    refine (l01Is_no x _ sx H.out).mono ?_
    rintro e w1 ⟨rfl, b1⟩
    go_wp2_with fail
    go_ret2
    exact ⟨_, rfl, OwnI.nil _ _, b1⟩

set_option maxRecDepth 100000 in
set_option maxHeartbeats 1000000 in
theorem impl_PeriodsOf (x : ByteArray) (w : World) (sx : x.size ≤ maxLen) :
    Calls Try.prog 74 #[.string x] w (RetI (periodsR x).1 (periodsR x).2 w) := by
  by_cases h : IsW x
  · rw [periodsR_ok h]
    have h1 := h.size
    have cb := impl_BordersOf x
    rw [bordersR_ok h] at cb
    have CB := Lib.hid cb
    clear h cb
    go_enter Try.func74, Try.ntmps74
    go_wp2_with fail
    refine (CB.out _ sx).mono ?_
    rintro e w1 ⟨v, rfl, o1, b1⟩
    have hlp := bordsR_len (bl x) x.size
    have hmem : ∀ z ∈ bordsR (bl x) x.size, 0 ≤ z ∧ z < x.size := fun z hz => bordsR_mem hz
    have hpe := pers_eq (bl x)
    rw [bl_len] at hpe
    have HPE := Lib.hid hpe
    clear hpe
    generalize bordsR (bl x) x.size = P at o1 hlp hmem HPE
    have HM := Lib.hid hmem
    clear hmem
    by_cases h0 : P = []
    · subst h0
      obtain ⟨a1, c1, rfl⟩ := o1.empty
      have HO := Lib.hid o1
      clear o1
      go_wp2_with fail
      refine wp_loop_rounds 1 ?_
      rw [rounds_succ]
      go_wp2_with fail
      refine (reverseI _ _ [] _ HO.out (by decide)).mono ?_
      rintro e w2 ⟨rfl, o2, g2⟩
      go_wp2
      go_ret2
      refine ⟨_, rfl, ?_, b1.grown g2 b1.size (fun k hk => (o2.lt k hk).1)⟩
      have h2 := HPE.out
      simp only [List.map_nil, List.reverse_nil] at h2
      rw [← h2]
      exact o2
    · have hn : 0 < P.length := List.length_pos_iff.2 h0
      obtain ⟨g, cp, rfl, hBg, hg, hc, hm, _, _⟩ := o1.row hn
      have O1 := Lib.hid o1
      clear o1 h0
      go_wp2_with fail
      go_loopw [18] (fun i wr => ∃ k : Nat, k ≤ P.length ∧ i = .int .i64 (k : Int) ∧ wr.ownsRow w.heap.size 2 1 (.slice (some ⟨g, 0, none⟩) P.length cp) P.length ((mapK (fun z => (x.size : Int) - z) P k).map (Value.int .i64)) ∧ w1.grownBy wr (some g))
        (fun i _ => P.length - (intOf i).toNat)
      case atStart => exact ⟨0, Nat.zero_le _, rfl, by rw [mapK_zero]; exact O1.out, grown_refl _ _⟩
      case round =>
        obtain ⟨k, hk, rfl, hown, hgr⟩ := hrel
        by_cases hp : k < P.length
        · have hmid := mapK_get (fun z => (x.size : Int) - z) P k hp
          have hst := hown.stored k (.int .i64 ((x.size : Int) - P[k]'hp))
          have hstep := mapK_step (fun z => (x.size : Int) - z) P k hp
          rw [hstep] at hst
          have hz := HM.out (P[k]'hp) (List.getElem_mem _)
          have k1 : wr.cell? ⟨g, k, none⟩ = some (.int .i64 (P[k]'hp)) := by
            rw [hown.cellAt k (by omega), List.getElem?_map, hmid]; rfl
          have f1 : wr.frozen? ⟨g, k, none⟩ = false := hown.frozenAt k
          have HS := Lib.hid hst
          have hkc : k < cp := by omega
          generalize P[k]'hp = z at *
          clear hst hstep hmid hown
          go_wp2
          go_roundw
          case rel => exact ⟨k + 1, by omega, by go_num, HS.out.1, grown_set hgr _ _⟩
          case measure => simp [intOf] <;> omega
        · have hke : k = P.length := by omega
          have ho2 : OwnI wr w.heap.size (.slice (some ⟨g, 0, none⟩) P.length cp) (P.map fun z => (x.size : Int) - z) := by
            rw [hke, mapK_end] at hown
            unfold OwnI
            rw [List.length_map]
            exact hown
          have HO := Lib.hid ho2
          clear ho2 hown
          go_wp2_with fail
          refine (reverseI _ _ _ _ HO.out (by rw [List.length_map]; omega)).mono ?_
          rintro e w2 ⟨rfl, o2, g2⟩
          go_wp2
          go_ret2
          refine ⟨_, rfl, ?_, (b1.grown hgr b1.size (fun q hq => by cases hq; exact hBg)).grown g2 (Nat.le_trans b1.size hgr.size) (fun q hq => (o2.lt q hq).1)⟩
          rw [← HPE.out]
          exact o2
  · rw [periodsR_bad h]
    have cb := impl_BordersOf x
    rw [bordersR_bad h] at cb
    have CB := Lib.hid cb
    clear h cb
    go_enter Try.func74, Try.ntmps74
    go_wp2_with fail
    refine (CB.out _ sx).mono ?_
    rintro e w1 ⟨v, rfl, o1, b1⟩
    go_wp2_with fail
    go_ret2
    exact ⟨_, rfl, OwnI.nil _ _, b1⟩

end Go.Proofs.Ythjbdcoklgnnlab
