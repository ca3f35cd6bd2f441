/- The different factors that pass a test: the program. -/
import Derived.Test.YthjbdcoklgnnlabPalPlain
import Derived.Test.YthjbdcoklgnnlabFactorsI
import Derived.Deep.LoopGhost
import Derived.Maps.AppendAt
namespace Go.Proofs.Ythjbdcoklgnnlab
set_option linter.unusedVariables false
set_option linter.unusedSimpArgs false
open Go.RowKit

set_option maxRecDepth 100000 in
set_option maxHeartbeats 2000000 in
theorem df_DfPal (T : ByteArray → Bool) (x : ByteArray) (w : World) (h : IsW x) (CT : ∀ (z : ByteArray) (W : World), z.size ≤ 60 → Below w.heap.size w W → Calls Try.prog 126 #[.string z] W fun e w' => e = .returned (.bool (T z)) ∧ Below W.heap.size W w') :
    Calls Try.prog 125 #[.string x, .func (.func 126) #[] #[]] w fun e w' => ∃ v, e = .returned v ∧ OwnS w' w.heap.size v (dfT T x x.size) ∧ Below w.heap.size w w' := by
  obtain ⟨i0, hi, hz0, hz1, hz2⟩ := info_parts infoStr
  have h1 := h.size
  have H := Lib.hid h
  have HT := Lib.hid CT
  clear h CT
  go_enter Try.func125, Try.ntmps125
  go_wp2
  go_loopg [5, 6] x.size (fun g v i wr => ∃ m : Nat, m + g = x.size ∧ i = .int .i64 ((m : Int) + 1) ∧ OwnS wr w.heap.size v (dfT T x m) ∧ Below w.heap.size w wr)
  case atStart => exact ⟨0, by omega, rfl, OwnS.nil _ _, Below.refl _ _⟩
  case round =>
    obtain ⟨m, hm, rfl, hown, hB⟩ := hrel
    by_cases hp : m < x.size
    · obtain ⟨g, rfl⟩ : ∃ g, gk = g + 1 := ⟨gk - 1, by omega⟩
      have hpi : (m : Int) + 1 ≤ (x.size : Int) := by omega
      have CF : Hid (∀ w, Calls Try.prog 165 #[.string x, .int .i64 ((m : Int) + 1)] w (RetS (facK x (m + 1) (x.size - m)) 0 w)) := Lib.hid fun w => by
        have := impl_FactorsOf x (((m + 1 : Nat)) : Int) w (by unfold maxLen; omega) (by go_wf)
        rwa [factorsR_ok H.out (by omega), show x.size + 1 - (m + 1) = x.size - m by omega] at this
      have hsz : ∀ z ∈ facK x (m + 1) (x.size - m), z.size ≤ 60 := fun z hz => by rw [facK_size (by omega) hz]; omega
      have hll : 0 < (facK x (m + 1) (x.size - m)).length := List.length_pos_iff.2 fun e => by
        have := (mem_facK x (m + 1) (x.extract 0 (0 + (m + 1))) (x.size - m)).2 ⟨0, by omega, rfl⟩
        rw [e] at this; cases this
      have hl2 := facK_len x (m + 1) (x.size - m)
      have HD : Hid (dfT T x (m + 1) = dfT T x m ++ (facK x (m + 1) (x.size - m)).filter T) := Lib.hid rfl
      have hD0 := dfT_len60 T h1 (N := m) (by omega)
      generalize facK x (m + 1) (x.size - m) = L at *
      generalize dfT T x m = D at *
      have HSZ := Lib.hid hsz
      clear hsz
      go_wp2_with fail
      refine (CF.out _).mono ?_
      rintro e w2 ⟨v2, rfl, o2, b2⟩
      have hwr := hB.size
      have hlt5 := fun k hk => (OwnS.lt hown k hk).2
      obtain ⟨g2, cp, rfl, hBg, hg2, hc, hmx, _, _⟩ := o2.row hll
      have hne : u5.ownBlock ≠ some g2 := fun e => by have := hlt5 _ e; omega
      have hown2 := hown.below b2
      have hB2 := hB.then b2
      clear hown hB b2 hlt5
      go_wp2_with fail
      go_loopg [5, 25] L.length (fun g3 v i wr => ∃ k : Nat, k + g3 = L.length ∧ i = .int .i64 (k : Int) ∧ OwnS wr w.heap.size v (D ++ (L.take k).filter T) ∧ v.ownBlock ≠ some g2 ∧ g2 < wr.heap.size ∧ OwnS wr w.heap.size (.slice (some ⟨g2, 0, none⟩) L.length cp) L ∧ Below w.heap.size w wr)
      case atStart => exact ⟨0, by omega, rfl, by rw [List.take_zero]; simpa using hown2, hne, hg2, o2.base hwr, hB2⟩
      case round =>
        clear hown2 hne hg2 o2 hB2
        obtain ⟨k, hk, rfl, hown, hne, hg2, oL, hB⟩ := hrel
        by_cases hpk : k < L.length
        · obtain ⟨g3, rfl⟩ : ∃ g, gk = g + 1 := ⟨gk - 1, by omega⟩
          have hkc : k < cp := by omega
          have hfl := List.length_filter_le T (L.take k)
          have hlt : (L.take k).length = k := by rw [List.length_take]; omega
          have cell : wr.cell? ⟨g2, k, none⟩ = some (.string (L[k]'hpk)) := by
            rw [oL.cellAt k (by omega), List.getElem?_map, List.getElem?_eq_getElem hpk]; rfl
          have hzs := HSZ.out (L[k]'hpk) (List.getElem_mem _)
          have hst : L.take (k + 1) = L.take k ++ [L[k]'hpk] := List.take_succ_eq_append_getElem hpk
          have CT := fun W hW => HT.out (L[k]'hpk) W hzs hW
          by_cases ht : T (L[k]'hpk) = true
          · have HN : Hid (D ++ (L.take (k + 1)).filter T = D ++ (L.take k).filter T ++ [L[k]'hpk]) := Lib.hid (by rw [hst, List.filter_append, List.append_assoc]; simp [ht])
            rw [ht] at CT
            have CT2 := Lib.hid CT
            clear CT ht hst
            generalize L[k]'hpk = z at *
            have hll2 : (D ++ (L.take k).filter T).length ≤ 3660 := by rw [List.length_append]; omega
            generalize D ++ (L.take k).filter T = M at *
            go_wp2_with (first | (go_at_call 126; refine (CT2.out _ hB).mono ?_; rintro e w3 ⟨rfl, b3⟩; have hown := hown.below b3; have hB3 := hB.then b3; have hbz3 := hB3.size; have oL3 := oL.below b3; have hg3 : g2 < w3.heap.size := Nat.lt_of_lt_of_le hg2 b3.size; clear oL hB b3 hg2) | (at_builtin; refine wpList_append_own_at _ rfl _ _ 48 rfl w.heap.size 9 i0 (.string ⟨#[]⟩) 1 16 Try.underlying48 hi hz0 hz1 hz2 rfl (by decide) _ _ _ rfl (hown.alloc _) ⟨_, 0, none⟩ 1 1 [.string z] rfl rfl (cell_new _ _ _) (by intro u hu; simp at hu; subst hu; rfl) (by unfold maxLen; omega) (by omega) (by simp; omega) ?_; intro v' w4 hown' hgrow _ hat))
            have hg4 : g2 < w4.heap.size := by have := hgrow.size; simp at this; omega
            have oL4 : OwnS w4 w.heap.size (.slice (some ⟨g2, 0, none⟩) L.length cp) L := World.ownsRow.kept (oL3.alloc _) hgrow (.inr fun e => hne e.symm)
            have hne' : v'.ownBlock ≠ some g2 := by
              rcases hat with e | e
              · rw [e]; exact hne
              · rw [e]; intro e2; have := Option.some.inj e2; simp at this; omega
            have hB4 : Below w.heap.size w w4 := (hB3.alloc hbz3 _).grown hgrow (by simp; omega) (fun q hq => (hown.lt q hq).1)
            clear hat oL3
            go_roundg g3
            case measure => omega
            case rel => exact ⟨k + 1, by omega, by go_num, by unfold OwnS; rw [HN.out, List.length_append, List.map_append]; exact hown', hne', hg4, oL4, hB4⟩
          · have ht2 : T (L[k]'hpk) = false := by simpa using ht
            have HN : Hid (D ++ (L.take (k + 1)).filter T = D ++ (L.take k).filter T) := Lib.hid (by rw [hst, List.filter_append]; simp [ht2])
            rw [ht2] at CT
            have CT2 := Lib.hid CT
            clear CT ht ht2 hst
            generalize L[k]'hpk = z at *
            go_wp2_with (go_at_call 126; refine (CT2.out _ hB).mono ?_; rintro e w3 ⟨rfl, b3⟩)
            go_roundg g3
            case measure => omega
            case rel => exact ⟨k + 1, by omega, by go_num, by rw [HN.out]; exact hown.below b3, hne, Nat.lt_of_lt_of_le hg2 b3.size, oL.below b3, hB.then b3⟩
        · have hkl : k = L.length := by omega
          have HO : Hid (OwnS wr w.heap.size u5 (dfT T x (m + 1))) := Lib.hid (by rw [HD.out]; rwa [hkl, List.take_length] at hown)
          clear hown oL
          have hpk2 : ¬ (k : Int) < (L.length : Int) := by omega
          go_wp2
          go_roundg g
          case measure => omega
          case rel => exact ⟨m + 1, by omega, by go_num, HO.out, hB⟩
    · have hpi : ¬ (m : Int) + 1 ≤ (x.size : Int) := by omega
      have hke : m = x.size := by omega
      have HO := Lib.hid hown
      clear hown
      go_wp2
      go_ret
      rw [← hke]
      exact ⟨_, rfl, HO.out, hB⟩

end Go.Proofs.Ythjbdcoklgnnlab
