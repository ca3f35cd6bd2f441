/- The numbers of closed and privileged factors: the model. -/
import Derived.Test.YthjbdcoklgnnlaaClosedS
import Derived.Test.YthjbdcoklgnnlaaFactorsS
import Derived.Test.YthjbdcoklgnnlaaPut
import Derived.Test.YthjbdcoklgnnlaaStrs
import Derived.Deep.LoopGhost
namespace Go.Proofs.Ythjbdcoklgnnlaa
set_option linter.unusedVariables false
set_option linter.unusedSimpArgs false
open Go.RowKit

theorem facK_hit (x : ByteArray) (m k : Nat) : facK x m (k + 1) = insW (facK x m k) (x.extract k (k + m)) := rfl
theorem clpB_cl (l : List UInt8) : clpB false l = clB l := rfl
theorem clpB_pr (l : List UInt8) : clpB true l = prB l := rfl
theorem filter_snoc {T : ByteArray → Bool} {L : List ByteArray} {k : Nat} (h : k < L.length) : ((L.take (k + 1)).filter T).length = ((L.take k).filter T).length + if T (L[k]'h) = true then 1 else 0 := by
  rw [List.take_succ_eq_append_getElem h, List.filter_append, List.length_append]
  by_cases c : T (L[k]'h) = true
  · simp [c]
  · simp [c]

theorem l04Closed_b (y : ByteArray) (p : Bool) (w : World) (hy : y.size ≤ 60) :
    Calls Try.prog 62 #[.string y, .bool p] w fun e w' => e = .returned (.bool (clpB p (bl y))) ∧ Below w.heap.size w w' := by
  refine (l04Closed_q 60 y p w hy hy).mono ?_
  rintro e w' ⟨rfl, n, rfl⟩
  exact ⟨rfl, (Below.refl _ _).drewN n⟩

set_option maxRecDepth 100000 in
set_option maxHeartbeats 1000000 in
theorem spec_CountClosed (x : ByteArray) (w : World) (sx : x.size ≤ maxLen) :
    Calls Try.prog 43 #[.string x] w fun e w' => e = .returned (.tuple #[.int .i64 (ccR x).1, .int .i64 (ccR x).2.1, .int .i64 (ccR x).2.2]) ∧ Below w.heap.size w w' := by
  by_cases h : IsW x
  · rw [ccR_ok h]
    obtain ⟨i0, hi, hz0, hz1, hz2⟩ := info_parts infoStr
    have hx := h.size
    have H := Lib.hid h
    clear h
    go_enter Try.func43, Try.ntmps43
    go_wp2_with fail
    refine (l01Is_yes x _ H.out).mono ?_
    rintro e w1 ⟨rfl, b1⟩
    go_wp2_with fail
    go_loopg [5, 6, 7] x.size (fun g c p v wr => ∃ m : Nat, m + g = x.size ∧ c = .int .i64 ((dfT clT x m).length : Int) ∧ p = .int .i64 ((dfT prT x m).length : Int) ∧ v = .int .i64 ((m : Int) + 1) ∧ Below w.heap.size w wr)
    case atStart => exact ⟨0, by omega, rfl, rfl, rfl, b1⟩
    case round =>
      clear b1
      obtain ⟨m, hm, rfl, rfl, rfl, hB⟩ := hrel
      have hc0 := dfT_len60 clT hx (N := m) (by omega)
      have hp0 := dfT_len60 prT hx (N := m) (by omega)
      by_cases hp : m < x.size
      · obtain ⟨g, rfl⟩ : ∃ g, gk = g + 1 := ⟨gk - 1, by omega⟩
        have hpi : (m : Int) + 1 ≤ (x.size : Int) := by omega
        have HDC : Hid ((dfT clT x (m + 1)).length = (dfT clT x m).length + ((facK x (m + 1) (x.size - m)).filter clT).length) := Lib.hid (by rw [dfT, List.length_append])
        have HDP : Hid ((dfT prT x (m + 1)).length = (dfT prT x m).length + ((facK x (m + 1) (x.size - m)).filter prT).length) := Lib.hid (by rw [dfT, List.length_append])
        generalize (dfT clT x m).length = dc at *
        generalize (dfT prT x m).length = dp at *
        have hbz := hB.size
        have hB0 := hB.then (Below.new wr (.cells #[] 9))
        have hE0 : OwnS (wr.alloc (.cells #[] 9)) wr.heap.size (.slice (some ⟨wr.heap.size, 0, none⟩) 0 0) [] := World.ownsRow_lit wr #[] 0 (Nat.le_refl _) (by decide) (by simp)
        obtain ⟨B0, hB0e⟩ : ∃ B0, B0 = wr.heap.size := ⟨_, rfl⟩
        rw [← hB0e] at hE0
        have hB0l : B0 ≤ (wr.alloc (.cells #[] 9)).heap.size := by simp; omega
        have HB0 := Lib.hid hB0e
        clear hB0e
        go_wp2
        go_loopg [8, 9] (x.size - m) (fun g2 v i wr' => ∃ k g0 cap : Nat, k + g2 = x.size - m ∧ i = .int .i64 (k : Int) ∧ v = .slice (some ⟨g0, 0, none⟩) (facK x (m + 1) k).length cap ∧ OwnS wr' B0 (.slice (some ⟨g0, 0, none⟩) (facK x (m + 1) k).length cap) (facK x (m + 1) k) ∧ B0 ≤ wr'.heap.size ∧ Below w.heap.size w wr')
        case atStart => exact ⟨0, wr.heap.size, 0, by omega, rfl, rfl, by rw [HB0.out] at hE0 ⊢; exact hE0, hB0l, hB0⟩
        case round =>
          clear hB hbz hB0 hE0 hB0l HB0
          obtain ⟨k, g0, cap, hk, rfl, rfl, hownE, hBE, hB⟩ := hrel
          have hlen := facK_len x (m + 1) k
          by_cases hpk : k + (m + 1) ≤ x.size
          · obtain ⟨g2, rfl⟩ : ∃ g, gk = g + 1 := ⟨gk - 1, by omega⟩
            have hle : (k : Int) + ((m : Int) + 1) ≤ (x.size : Int) := by omega
            have hsl : ∀ W, (Instr.slice 9 (.string x) (some (.int .i64 (k : Int))) (some (.int .i64 ((k : Int) + ((m : Int) + 1)))) none).run Try.prog W = .ok (.string (x.extract k (k + (m + 1)))) W := fun W => slice_mid x k (m + 1) hpk W
            have hes : (x.extract k (k + (m + 1))).size ≤ 60 := by simp; omega
            have HN := Lib.hid (facK_hit x (m + 1) k)
            have HA := Lib.hid (facK_asc x (m + 1) k)
            generalize x.extract k (k + (m + 1)) = y at *
            generalize facK x (m + 1) k = L at *
            go_wp2_with (go_at_call 65; refine (l01Put_any B0 g0 cap L y _ hownE hBE HA.out (by omega) hes).mono ?_; rintro e w3 ⟨g3, cap3, rfl, hownE3, b3⟩)
            go_roundg g2
            case measure => omega
            case rel => exact ⟨k + 1, g3, cap3, by omega, by go_num, by rw [HN.out], by rw [HN.out]; exact hownE3, Nat.le_trans hBE b3.size, hB.then b3⟩
          · have hke : k = x.size - m := by omega
            have hle : ¬ (k : Int) + ((m : Int) + 1) ≤ (x.size : Int) := by omega
            have HFZ : Hid (∀ z ∈ facK x (m + 1) k, z.size ≤ 60) := Lib.hid fun z hz => by rw [facK_size (by omega) hz]; omega
            have HE : Hid (facK x (m + 1) k = facK x (m + 1) (x.size - m)) := Lib.hid (by rw [hke])
            generalize facK x (m + 1) k = L at *
            have hbz := hB.size
            go_wp2
            go_loopg [5, 6, 10] L.length (fun g3 c p v wr' => ∃ j : Nat, j + g3 = L.length ∧ c = .int .i64 ((dc + ((L.take j).filter clT).length : Nat) : Int) ∧ p = .int .i64 ((dp + ((L.take j).filter prT).length : Nat) : Int) ∧ v = .int .i64 (j : Int) ∧ OwnS wr' B0 (.slice (some ⟨g0, 0, none⟩) L.length cap) L ∧ Below w.heap.size w wr')
            case atStart => exact ⟨0, by omega, by simp, by simp, rfl, hownE, hB⟩
            case round =>
              clear hownE hBE hB hbz
              obtain ⟨j, hj, rfl, rfl, rfl, hownE, hB⟩ := hrel
              have hf1 := List.length_filter_le clT (L.take j)
              have hf2 := List.length_filter_le prT (L.take j)
              have hlt : (L.take j).length ≤ L.length := by rw [List.length_take]; omega
              by_cases hpj : j < L.length
              · obtain ⟨g3, rfl⟩ : ∃ g, gk = g + 1 := ⟨gk - 1, by omega⟩
                have hji : (j : Int) < (L.length : Int) := by omega
                obtain ⟨g9, c9, e9, _, hg9, hc9, _, cell9, _⟩ := hownE.row (by omega)
                obtain ⟨rfl, rfl⟩ : g0 = g9 ∧ cap = c9 := by injection e9 with e1 _ e2; exact ⟨by injection e1 with e1; injection e1, e2⟩
                have cell := cell9 j hpj
                have hjc : j < cap := by omega
                have CC := Lib.hid fun p w => l04Closed_b (L[j]'hpj) p w (HFZ.out _ (List.getElem_mem _))
                have HS1 := Lib.hid (filter_snoc (T := clT) hpj)
                have HS2 := Lib.hid (filter_snoc (T := prT) hpj)
                obtain ⟨q1, hq1⟩ : ∃ q, ((L.take j).filter clT).length = q := ⟨_, rfl⟩
                obtain ⟨q2, hq2⟩ : ∃ q, ((L.take j).filter prT).length = q := ⟨_, rfl⟩
                have e1 : clpB false (bl (L[j]'hpj)) = clT (L[j]'hpj) := rfl
                have e2 : clpB true (bl (L[j]'hpj)) = prT (L[j]'hpj) := rfl
                rw [hq1] at HS1 hf1 ⊢
                rw [hq2] at HS2 hf2 ⊢
                clear e9 cell9 hq1 hq2
                cases h1 : clT (L[j]'hpj) <;> cases h2 : prT (L[j]'hpj)
                all_goals
                  rw [h1] at e1 HS1
                  rw [h2] at e2 HS2
                  clear h1 h2
                  generalize L[j]'hpj = y at *
                  go_wp2_with (go_at_call 62; refine (CC.out _ _).mono ?_; rintro e w3 ⟨rfl, b3⟩; have cell := ((bcell b3).1 g0 j hg9).trans cell; have hg9 := Nat.lt_of_lt_of_le hg9 b3.size; have hownE := hownE.below b3; have hB := hB.then b3; clear b3)
                  go_roundg g3
                  case measure => omega
                  case rel => exact ⟨j + 1, by omega, by rw [HS1.out]; go_num, by rw [HS2.out]; go_num, by go_num, hownE, hB⟩
              · have hje : j = L.length := by omega
                have hji : ¬ (j : Int) < (L.length : Int) := by omega
                have HC1 : Hid (dc + ((L.take j).filter clT).length = (dfT clT x (m + 1)).length) := Lib.hid (by rw [HDC.out, hje, List.take_length, HE.out])
                have HC2 : Hid (dp + ((L.take j).filter prT).length = (dfT prT x (m + 1)).length) := Lib.hid (by rw [HDP.out, hje, List.take_length, HE.out])
                rw [HC1.out, HC2.out]
                go_wp2
                go_roundg g
                case measure => omega
                case rel => exact ⟨m + 1, by omega, rfl, rfl, by go_num, hB⟩
      · have hpi : ¬ (m : Int) + 1 ≤ (x.size : Int) := by omega
        have hke : m = x.size := by omega
        rw [hke]
        rw [hke] at hpi
        go_wp2
        go_ret3
        exact ⟨rfl, hB⟩
  · rw [ccR_bad h]
    have H := Lib.hid h
    clear h
    go_enter Try.func43, Try.ntmps43
    go_wp2_with (go_at_call 45; refine (l01Is_no x _ sx H.out).mono ?_; rintro e w1 ⟨rfl, b1⟩)
    go_ret3
    exact ⟨rfl, b1⟩

end Go.Proofs.Ythjbdcoklgnnlaa
