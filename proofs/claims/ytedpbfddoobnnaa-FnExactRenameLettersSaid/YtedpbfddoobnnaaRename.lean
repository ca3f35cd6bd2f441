/- Letters renamed: the program and the model. -/
import Derived.Test.YtedpbfddoobnnaaWordOfS
import Derived.Test.YtedpbfddoobnnaaNumbers
import Derived.Test.YtedpbfddoobnnaaRenamePlain
namespace Go.Proofs.Ytedpbfddoobnnaa
set_option linter.unusedVariables false
set_option linter.unusedSimpArgs false
open Go.RowKit

set_option maxRecDepth 100000 in
set_option maxHeartbeats 2000000 in
theorem impl_RenameLetters (x : ByteArray) (B : Nat) (v : Value) (L : List Int) (w : World) (sx : x.size ≤ maxLen) (h : OwnI w B v L) (hl : L.length ≤ 1048576) :
    Calls Try.prog 35 #[.string x, v] w fun e w' => e = .returned (.tuple #[.string (renR x L).1, .int .i64 (renR x L).2]) ∧ Below w.heap.size w w' := by
  by_cases hx : IsW x
  · have h1 := hx.size
    have HX := Lib.hid hx
    have hv : ∃ a c, v = .slice a L.length c := by
      rcases own_forms h with ⟨rfl, h0, _⟩ | ⟨g, cap, rfl, _⟩
      · exact ⟨none, 0, by rw [h0]⟩
      · exact ⟨_, _, rfl⟩
    by_cases h5 : L.length = 5
    · by_cases hok : okN L
      · rw [renR_ok hx h5 hok]
        have OK := Lib.hid hok
        have H := Lib.hid h
        obtain ⟨gp, cp, rfl, _, hgp, hcp, _, cell, _⟩ := h.row (by omega)
        have C := Lib.hid cell
        have hd5 : ((L.length : Int) != 5) = false := by rw [h5]; rfl
        have H5 := Lib.hid h5
        have hcp5 : 5 ≤ cp := by omega
        clear hx hok h cell hv h5
        go_enter Try.func35, Try.ntmps35
        go_wp2_with fail
        refine (isWord_yes x _ HX.out).mono ?_
        rintro e w1 ⟨rfl, b1⟩
        go_wp2_with fail
        refine (areLN_yes _ _ L _ (H.out.below b1) hl OK.out).mono ?_
        rintro e w2 ⟨rfl, b2⟩
        go_wp2_with fail
        refine (numbersOf_any x _ HX.out).mono ?_
        rintro e w3 ⟨nv, rfl, o3, b3⟩
        have B2 := b1.then b2
        have B3 := B2.then b3
        have hb2 := B2.size
        have hok2 := renL_ok HX.out H5.out OK.out
        have OK2 := Lib.hid hok2
        clear b1 b2 b3 hok2
        by_cases h0 : x.size = 0
        · have hN : numsR x = [] := List.eq_nil_of_length_eq_zero (by rw [numsR_len, h0])
          have hR : renL x L = [] := List.eq_nil_of_length_eq_zero (by rw [renL_len, h0])
          rw [hN] at o3
          have HR := Lib.hid hR
          have O3 := Lib.hid o3
          obtain ⟨na, nc, rfl⟩ := o3.empty
          clear o3 hN hR h0
          go_wp2_with fail
          refine wp_loop_rounds 1 ?_
          rw [rounds_succ]
          go_wp2_with fail
          refine (wordOf_any _ _ [] _ O3.out (by simp) okN_nil).mono ?_
          rintro e w4 ⟨rfl, b4⟩
          go_wp2_with fail
          go_ret2
          exact ⟨by rw [HR.out]; rfl, B3.then b4⟩
        · have hNl := numsR_len x
          have hRl := renL_len x L
          have O3 := Lib.hid o3
          obtain ⟨gn, cn, hnv, hgn1, hgn2, hcn, _, ncell, _⟩ := o3.row (by omega)
          rw [hNl] at hnv hcn
          subst hnv
          have NL := Lib.hid hNl
          have RL := Lib.hid hRl
          clear o3 ncell hNl hRl h0
          go_wp2_with fail
          go_loopw [24] (fun i wr => ∃ k : Nat, k ≤ x.size ∧ i = .int .i64 k ∧ wr.ownsRow w2.heap.size 2 1 (.slice (some ⟨gn, 0, none⟩) x.size cn) x.size ((mixL (renL x L) (numsR x) k).map (Value.int .i64)) ∧ Below w.heap.size w wr) (fun i _ => x.size - (intOf i).toNat)
          case atStart =>
            refine ⟨0, Nat.zero_le _, rfl, ?_, B3⟩
            rw [mixL_zero]
            have h3 := O3.out
            unfold OwnI at h3
            rw [NL.out] at h3
            exact h3
          case round =>
            obtain ⟨k, hk, rfl, hown, hB⟩ := hrel
            clear B3
            by_cases hp : k < x.size
            · have hlo := HX.out.lo k hp
              have hhi := HX.out.hi k hp
              have hNl := NL.out
              have hRl := RL.out
              have hml := mixL_len (renL x L) (numsR x) k (by omega) (by omega)
              have k1 : wr.cell? ⟨gn, k, none⟩ = some (.int .i64 (((x[k]'hp).toNat : Int) - 97)) := by
                rw [hown.cellAt k (by omega)]
                rw [List.getElem?_eq_getElem (by rw [List.length_map]; omega), List.getElem_map, mixL_get _ _ k (by omega) (by omega), numsR_get x k _ hp]
              have k2 : wr.frozen? ⟨gn, k, none⟩ = false := hown.frozenAt k
              obtain ⟨n, hn⟩ : ∃ n : Nat, ((x[k]'hp).toNat : Int) = (n : Int) + 97 := ⟨(x[k]'hp).toNat - 97, by omega⟩
              have hn4 : n ≤ 4 := by omega
              have h5 := H5.out
              have hnL : n < L.length := by omega
              have k3 : wr.cell? ⟨gp, n, none⟩ = some (.int .i64 (L[n]'hnL)) := by
                rw [(bcell hB).1 gp n hgp]; exact C.out n hnL
              have hst := hown.stored k (.int .i64 ((renL x L)[k]'(by omega)))
              rw [mixL_step _ _ k (by omega) (by omega), renL_get x L k (by omega) hp] at hst
              have e1 : ((x[k]'hp).toNat : Int) - 97 = n := by omega
              rw [e1] at k1 hst
              rw [Int.toNat_natCast, List.getD_eq_getElem?_getD, List.getElem?_eq_getElem hnL, Option.getD_some] at hst
              generalize L[n]'hnL = z at k3 hst
              have HS := Lib.hid hst
              have hgb : w.heap.size ≤ gn := by omega
              have hne : gn ≠ gp := by omega
              have hnc : n < cp := by omega
              have hkc : k < cn := by omega
              clear hst hown e1 hn hNl hRl hml h5
              go_wp2_with fail
              go_roundw
              case rel => exact ⟨k + 1, by omega, by go_num, HS.out.1, hB.setCell (p := ⟨gn, k, none⟩) hgb _⟩
              case measure => simp [intOf]; omega
            · have hke : k = x.size := by omega
              subst hke
              have ho : OwnI wr w2.heap.size (.slice (some ⟨gn, 0, none⟩) x.size cn) (renL x L) := by
                have h3 := hown
                rw [show mixL (renL x L) (numsR x) x.size = renL x L by rw [← NL.out]; exact mixL_end _ _ (by rw [NL.out, RL.out])] at h3
                unfold OwnI
                rw [RL.out]
                exact h3
              have HO := Lib.hid ho
              clear hown ho
              go_wp2_with fail
              refine (wordOf_any _ _ (renL x L) _ HO.out (by rw [RL.out]; exact h1) OK2.out).mono ?_
              rintro e w4 ⟨rfl, b4⟩
              go_wp2_with fail
              go_ret2
              exact ⟨rfl, hB.then b4⟩
      · rw [renR_out hx (.inr hok)]
        obtain ⟨a, c, rfl⟩ := hv
        have HOK := Lib.hid hok
        have H := Lib.hid h
        have hd5 : ((L.length : Int) != 5) = false := by rw [h5]; rfl
        clear hx hok h h5
        go_enter Try.func35, Try.ntmps35
        go_wp2_with fail
        refine (isWord_yes x _ HX.out).mono ?_
        rintro e w1 ⟨rfl, b1⟩
        go_wp2_with fail
        refine (areLN_no _ _ L _ (H.out.below b1) hl HOK.out).mono ?_
        rintro e w2 ⟨rfl, b2⟩
        go_wp2_with fail
        go_ret2
        exact ⟨rfl, b1.then b2⟩
    · rw [renR_out hx (.inl h5)]
      obtain ⟨a, c, rfl⟩ := hv
      have hd5 : ((L.length : Int) != 5) = true := by rw [bne_iff_ne]; omega
      clear hx h h5
      go_enter Try.func35, Try.ntmps35
      go_wp2_with fail
      refine (isWord_yes x _ HX.out).mono ?_
      rintro e w1 ⟨rfl, b1⟩
      go_wp2_with fail
      go_ret2
      exact ⟨rfl, b1⟩
  · rw [renR_bad hx]
    have HX := Lib.hid hx
    clear hx h
    go_enter Try.func35, Try.ntmps35
    go_wp2_with fail
    refine (isWord_not x _ sx HX.out).mono ?_
    rintro e w1 ⟨rfl, b1⟩
    go_wp2_with fail
    go_ret2
    exact ⟨rfl, b1⟩

set_option maxRecDepth 100000 in
set_option maxHeartbeats 2000000 in
theorem l01Renamed_any (x : ByteArray) (B : Nat) (v : Value) (L : List Int) (w : World) (hx : IsW x) (h : OwnI w B v L) (h5 : L.length = 5) (hok : okN L) :
    Calls Try.prog 98 #[.string x, v] w fun e w' => e = .returned (.string (wordB (renL x L))) ∧ Below w.heap.size w w' := by
  obtain ⟨i0, hi, hz0, hz1, hz2⟩ := info_parts infoU8
  have h1 := hx.size
  obtain ⟨gp, cp, rfl, _, hgp, hcp, _, cell, _⟩ := h.row (by omega)
  have C := Lib.hid cell
  have HX := Lib.hid hx
  have H5 := Lib.hid h5
  have hcp5 : 5 ≤ cp := by omega
  have OK := Lib.hid hok
  have OK2 := Lib.hid (renL_ok hx h5 hok)
  have RL := Lib.hid (renL_len x L)
  clear hx h cell h5 hok
  go_enter Try.func98, Try.ntmps98
  go_wp2
  go_loopw [5, 6] (fun v i wr => ∃ k : Nat, k ≤ x.size ∧ i = .int .i64 k ∧ wr.ownsRow w.heap.size 5 1 v k (Lib.byteCells (wordL ((renL x L).take k))) ∧ Below w.heap.size w wr)
    (fun _ i _ => x.size - (intOf i).toNat)
  case atStart =>
    refine ⟨0, Nat.zero_le _, rfl, ?_, Below.new _ _⟩
    exact World.ownsRow_lit w #[] 0 (Nat.le_refl _) (by decide) (by simp)
  case round =>
    rename_i u5 _ _
    obtain ⟨k, hk, rfl, hown, hB⟩ := hrel
    by_cases hp : k < x.size
    · have hlo := HX.out.lo k hp
      have hhi := HX.out.hi k hp
      have hRl := RL.out
      obtain ⟨n, hn⟩ : ∃ n : Nat, ((x[k]'hp).toNat : Int) = (n : Int) + 97 := ⟨(x[k]'hp).toNat - 97, by omega⟩
      have hn4 : n ≤ 4 := by omega
      have h5 := H5.out
      have hnL : n < L.length := by omega
      have hokn := OK.out n hnL
      have k3 : wr.cell? ⟨gp, n, none⟩ = some (.int .i64 (L[n]'hnL)) := by
        rw [(bcell hB).1 gp n hgp]; exact C.out n hnL
      have hsn := wordL_snoc (renL x L) k (by omega)
      have e1 : ((x[k]'hp).toNat : Int) - 97 = n := by omega
      rw [renL_get x L k (by omega) hp, e1, Int.toNat_natCast, List.getD_eq_getElem?_getD, List.getElem?_eq_getElem hnL, Option.getD_some] at hsn
      have hbc := letB_byte hokn.1 hokn.2
      have HS : Hid (Lib.byteCells (wordL ((renL x L).take k)) ++ [Value.int .u8 (97 + L[n]'hnL)] = Lib.byteCells (wordL ((renL x L).take (k + 1)))) := Lib.hid (by rw [← hbc, ← Lib.byteCells_append, hsn])
      have E1 := Lib.hid e1
      have K3 := Lib.hid k3
      clear hsn hbc e1 hn hRl h5 k3
      generalize hzz : L[n]'hnL = z at *
      clear hzz
      obtain ⟨o1, o2⟩ := hokn
      have hnc : n < cp := by omega
      go_wp2_with fail
      refine (l01At_any x k _ hp h1).mono ?_
      rintro e w2 ⟨rfl, b2⟩
      rw [E1.out]
      have k3 : w2.cell? ⟨gp, n, none⟩ = some (.int .i64 z) := by
        rw [(bcell b2).1 gp n (Nat.lt_of_lt_of_le hgp hB.size)]; exact K3.out
      have hown := own_below hown b2
      have hB := hB.then b2
      have hbz := hB.size
      go_wp2_with (at_builtin; refine wpList_append_own _ rfl _ _ 22 rfl w.heap.size 5 i0 (.int .u8 0) 1 1 Try.underlying22 hi hz0 hz1 hz2 rfl (by decide) _ _ _ rfl (hown.alloc _) ⟨_, 0, none⟩ 1 1 [.int .u8 (97 + z)] rfl rfl (cell_new _ _ _) (by intro u hu; simp at hu; subst hu; rfl) (by unfold maxLen; omega) (by omega) (by simp; omega) ?_; intro v' w3 hown' hgrow _)
      go_roundw
      case rel =>
        refine ⟨k + 1, by omega, by go_num, by rw [← HS.out]; exact hown', ?_⟩
        exact (hB.alloc hbz _).grown hgrow (by simp; omega) (fun q hq => (hown.lt q hq).1)
      case measure => simp [intOf]; omega
    · have hke : x.size ≤ k := by omega
      have hcv : (convert 22 9 u5).run Try.prog wr = .ok (.string (wordB (renL x L))) wr := by
        have hkk : k = (wordL (renL x L)).length := by
          have := RL.out
          simp only [wordL, List.length_map]
          omega
        have h2 := hown
        rw [List.take_of_length_le (by rw [RL.out]; exact hke)] at h2
        rw [hkk] at h2
        exact text_of_own h2
      clear hown
      go_wp2
      go_ret
      exact ⟨rfl, hB⟩

set_option maxRecDepth 100000 in
set_option maxHeartbeats 2000000 in
theorem spec_RenameLetters (x : ByteArray) (B : Nat) (v : Value) (L : List Int) (w : World) (sx : x.size ≤ maxLen) (h : OwnI w B v L) (hl : L.length ≤ 1048576) :
    Calls Try.prog 36 #[.string x, v] w fun e w' => e = .returned (.tuple #[.string (renR x L).1, .int .i64 (renR x L).2]) ∧ Below w.heap.size w w' := by
  by_cases hx : IsW x
  · have h1 := hx.size
    have HX := Lib.hid hx
    have hv : ∃ a c, v = .slice a L.length c := by
      rcases own_forms h with ⟨rfl, h0, _⟩ | ⟨g, cap, rfl, _⟩
      · exact ⟨none, 0, by rw [h0]⟩
      · exact ⟨_, _, rfl⟩
    by_cases h5 : L.length = 5
    · by_cases hok : okN L
      · rw [renR_ok hx h5 hok]
        have OK := Lib.hid hok
        have H := Lib.hid h
        obtain ⟨gp, cp, rfl, _, hgp, hcp, _, cell, _⟩ := h.row (by omega)
        have C := Lib.hid cell
        have hd5 : ((L.length : Int) != 5) = false := by rw [h5]; rfl
        have H5 := Lib.hid h5
        have hcp5 : 5 ≤ cp := by omega
        clear hx hok h cell hv h5
        go_enter Try.func36, Try.ntmps36
        go_wp2_with fail
        refine (l01Is_yes x _ HX.out).mono ?_
        rintro e w1 ⟨rfl, b1⟩
        go_wp2_with fail
        refine (l01Ls_yes _ _ L _ (H.out.below b1) hl OK.out).mono ?_
        rintro e w2 ⟨rfl, b2⟩
        go_wp2_with fail
        refine (l01Renamed_any x _ _ L _ HX.out ((H.out.below b1).below b2) H5.out OK.out).mono ?_
        rintro e w3 ⟨rfl, b3⟩
        go_wp2_with fail
        go_ret2
        exact ⟨rfl, (b1.then b2).then b3⟩
      · rw [renR_out hx (.inr hok)]
        obtain ⟨a, c, rfl⟩ := hv
        have HOK := Lib.hid hok
        have H := Lib.hid h
        have hd5 : ((L.length : Int) != 5) = false := by rw [h5]; rfl
        clear hx hok h h5
        go_enter Try.func36, Try.ntmps36
        go_wp2_with fail
        refine (l01Is_yes x _ HX.out).mono ?_
        rintro e w1 ⟨rfl, b1⟩
        go_wp2_with fail
        refine (l01Ls_no _ _ L _ (H.out.below b1) hl HOK.out).mono ?_
        rintro e w2 ⟨rfl, b2⟩
        go_wp2_with fail
        go_ret2
        exact ⟨rfl, b1.then b2⟩
    · rw [renR_out hx (.inl h5)]
      obtain ⟨a, c, rfl⟩ := hv
      have hd5 : ((L.length : Int) != 5) = true := by rw [bne_iff_ne]; omega
      clear hx h h5
      go_enter Try.func36, Try.ntmps36
      go_wp2_with fail
      refine (l01Is_yes x _ HX.out).mono ?_
      rintro e w1 ⟨rfl, b1⟩
      go_wp2_with fail
      go_ret2
      exact ⟨rfl, b1⟩
  · rw [renR_bad hx]
    have HX := Lib.hid hx
    clear hx h
    go_enter Try.func36, Try.ntmps36
    go_wp2_with fail
    refine (l01Is_no x _ sx HX.out).mono ?_
    rintro e w1 ⟨rfl, b1⟩
    go_wp2_with fail
    go_ret2
    exact ⟨rfl, b1⟩

end Go.Proofs.Ytedpbfddoobnnaa
