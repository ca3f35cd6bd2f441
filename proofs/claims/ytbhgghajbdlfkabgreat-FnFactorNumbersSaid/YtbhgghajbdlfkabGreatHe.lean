/- The same factors: the program. -/
import Derived.Test.YtbhgghajbdlfkabGreatFactorsI
import Derived.Test.YtbhgghajbdlfkabGreatGapPlain
import Derived.Test.YtbhgghajbdlfkabGreatShelf
import Derived.Shelf.Slices.Equal
import Derived.Shelf.Slices.Empties2
namespace Go.Proofs.YtbhgghajbdlfkabGreat
set_option linter.unusedVariables false
set_option linter.unusedSimpArgs false
open Go.RowKit Go.Shelf

theorem OwnS.formH {w : World} {B : Nat} {v : Value} {L : List ByteArray} (h : OwnS w B v L) : ∃ a c, v = .slice a L.length c := by
  rcases own_forms h with ⟨rfl, h0, _⟩ | ⟨g, cap, rfl, _⟩
  · exact ⟨_, _, by rw [h0]⟩
  · exact ⟨_, _, rfl⟩
theorem OwnS.lookH {w : World} {B : Nat} {v : Value} {L : List ByteArray} (h : OwnS w B v L) : ∃ ad cap, v = .slice ad L.length cap ∧ ∀ j (hj : j < L.length), ∃ g, ad = some ⟨g, 0, none⟩ ∧ g < w.heap.size ∧ j < cap ∧ w.cell? ⟨g, j, none⟩ = some (.string (L[j]'hj)) := by
  rcases own_forms h with ⟨rfl, h0, _⟩ | ⟨g, cap, rfl, _, hg, hc, _, hk, _⟩
  · exact ⟨_, _, by rw [h0], fun j hj => by omega⟩
  · refine ⟨_, _, rfl, fun j hj => ⟨g, rfl, hg, by omega, ?_⟩⟩
    rw [hk j hj]
    simp [hj]
theorem slicesEqualS (B1 B2 : Nat) (v1 v2 : Value) (L M : List ByteArray) (w : World) (h1 : OwnS w B1 v1 L) (h2 : OwnS w B2 v2 M) (l1 : L.length ≤ 4096) (l2 : M.length ≤ 4096) :
    Calls Tryz.prog 96 #[v1, v2] w fun e w' => e = .returned (.bool (decide (L = M))) ∧ Below w.heap.size w w' := by
  by_cases hl : L.length = M.length
  · by_cases h0 : L = []
    · subst h0
      have hM : M = [] := List.eq_nil_of_length_eq_zero hl.symm
      subst hM
      obtain ⟨a1, c1, rfl⟩ := h1.empty
      obtain ⟨a2, c2, rfl⟩ := h2.empty
      refine (Tryz.slices_Equal_string_empty a1 a2 c1 0 c2 w (by decide)).mono ?_
      rintro e w' ⟨rfl, rfl⟩
      exact ⟨rfl, Below.refl _ _⟩
    · have hn : 0 < L.length := List.length_pos_iff.2 h0
      obtain ⟨g1, c1, rfl, _, _, _, _, k1, _⟩ := h1.row hn
      obtain ⟨g2, c2, rfl, _, _, _, _, k2, _⟩ := h2.row (by omega)
      refine (Tryz.slices_Equal_string g1 0 L.length c1 g2 0 M.length c2 L M w (Nat.le_refl _) (Nat.le_refl _) (by omega) (by omega) (fun j hj => ?_) (fun j hj => ?_)).mono ?_
      · rw [Nat.zero_add, k1 j hj, List.getD_eq_getElem?_getD, List.getElem?_eq_getElem hj]; rfl
      · rw [Nat.zero_add, k2 j hj, List.getD_eq_getElem?_getD, List.getElem?_eq_getElem hj]; rfl
      · rintro e w' ⟨rfl, q, rfl⟩
        refine ⟨?_, (Below.refl _ w).drewN q⟩
        rw [List.take_length, List.take_length]
  · obtain ⟨a1, c1, rfl⟩ := h1.formH
    obtain ⟨a2, c2, rfl⟩ := h2.formH
    refine (Tryz.slices_Equal_string_lens a1 a2 L.length c1 M.length c2 w hl).mono ?_
    rintro e w' ⟨rfl, rfl⟩
    refine ⟨?_, Below.refl _ _⟩
    rw [decide_eq_false (fun e => hl (by rw [e]))]

set_option maxRecDepth 100000 in
theorem impl_HaveEqualFactors (x u : ByteArray) (m : Int) (w : World) (sx : x.size ≤ maxLen) (su : u.size ≤ maxLen) (wm : (Lit.int .i64 m).wf = true) :
    Calls Tryz.prog 29 #[.string x, .string u, .int .i64 m] w fun e w' => e = .returned (.tuple #[.bool (heR x u m).1, .int .i64 (heR x u m).2]) ∧ Below w.heap.size w w' := by
  by_cases h : IsW x ∧ IsW u
  · have hx := factorsR_len x m
    have hu := factorsR_len u m
    have CX := Lib.hid fun w => impl_FactorsOf x m w sx wm
    have CU := Lib.hid fun w => impl_FactorsOf u m w su wm
    by_cases ho : m < 0 ∨ 60 < m
    · rw [heR_out h ho]
      rw [factorsR_out h.1 ho] at CX
      rw [factorsR_out h.2 ho] at CU
      have H := Lib.hid h
      clear h ho hx hu
      go_enter Tryz.func29, Tryz.ntmps29
      go_wp2_with fail
      refine (areWords2_yes _ x u _ (by simp) (by simp [go_sem]) (by simp [go_sem]) H.out.1 H.out.2).mono ?_
      rintro e w1 ⟨rfl, b1⟩
      have B1 : Below w.heap.size w w1 := ((Below.refl w.heap.size w).alloc (Nat.le_refl _) _).trans (b1.mono (by simp))
      go_wp2_with fail
      refine (CX.out _).mono ?_
      rintro e w2 ⟨v2, rfl, o2, b2⟩
      go_wp2_with fail
      refine (CU.out _).mono ?_
      rintro e w3 ⟨v3, rfl, o3, b3⟩
      go_wp2_with fail
      go_ret2
      exact ⟨rfl, (B1.then b2).then b3⟩
    · obtain ⟨n, rfl⟩ := Int.eq_ofNat_of_zero_le (show 0 ≤ m by omega)
      have hm : n ≤ 60 := by omega
      rw [heR_ok h hm]
      rw [factorsR_ok h.1 hm] at CX hx
      rw [factorsR_ok h.2 hm] at CU hu
      unfold facs
      generalize facK x n (x.size + 1 - n) = L at *
      generalize facK u n (u.size + 1 - n) = M at *
      have H := Lib.hid h
      have HL := Lib.hid (And.intro hx hu)
      clear h hx hu ho
      go_enter Tryz.func29, Tryz.ntmps29
      go_wp2_with fail
      refine (areWords2_yes _ x u _ (by simp) (by simp [go_sem]) (by simp [go_sem]) H.out.1 H.out.2).mono ?_
      rintro e w1 ⟨rfl, b1⟩
      have B1 : Below w.heap.size w w1 := ((Below.refl w.heap.size w).alloc (Nat.le_refl _) _).trans (b1.mono (by simp))
      go_wp2_with fail
      refine (CX.out _).mono ?_
      rintro e w2 ⟨v2, rfl, o2, b2⟩
      go_wp2_with fail
      refine (CU.out _).mono ?_
      rintro e w3 ⟨v3, rfl, o3, b3⟩
      have o2 := OwnS.below o2 b3
      go_wp2_with fail
      refine (slicesEqualS _ _ v2 v3 L M w3 o2 o3 HL.out.1 HL.out.2).mono ?_
      rintro e w4 ⟨rfl, b4⟩
      go_wp2_with fail
      go_ret2
      exact ⟨rfl, ((B1.then b2).then b3).then b4⟩
  · rw [heR_bad h]
    have H := Lib.hid h
    clear h
    go_enter Tryz.func29, Tryz.ntmps29
    go_wp2_with fail
    refine (areWords2_no _ x u _ (by simp) (by simp [go_sem]) (by simp [go_sem]) sx su H.out).mono ?_
    rintro e w1 ⟨rfl, b1⟩
    have B1 : Below w.heap.size w w1 := ((Below.refl w.heap.size w).alloc (Nat.le_refl _) _).trans (b1.mono (by simp))
    go_wp2_with fail
    go_ret2
    exact ⟨rfl, B1⟩

end Go.Proofs.YtbhgghajbdlfkabGreat
