/- The Lyndon parts of a word: the program and the model. -/
import Derived.Test.YthjbdcoklgnnlabLyn
import Derived.Test.YthjbdcoklgnnlabStrs
import Derived.Test.YthjbdcoklgnnlabFactor
namespace Go.Proofs.Ythjbdcoklgnnlab
set_option linter.unusedVariables false
set_option linter.unusedSimpArgs false
open Go.RowKit

def ofL (l : List UInt8) : ByteArray := ⟨l.toArray⟩
theorem bl_ofL (l : List UInt8) : bl (ofL l) = l := by simp [ofL, bl]
theorem ofL_bl (x : ByteArray) : ofL (bl x) = x := bl_inj (bl_ofL _)
noncomputable def partsB (x : ByteArray) : List ByteArray := (partsL (bl x)).map ofL
theorem partsB_nil {x : ByteArray} (h : x.size = 0) : partsB x = [] := by
  unfold partsB; rw [size_zero h]; rfl
theorem partsB_step {x : ByteArray} {i : Nat} (h : FirstLess (bl x) i) : partsB x = x.extract 0 i :: partsB (x.extract i x.size) := by
  unfold partsB
  rw [partsL_step h, List.map_cons, bl_drop, ← bl_take, ofL_bl]
theorem partsB_len (x : ByteArray) : (partsB x).length ≤ x.size := by
  unfold partsB; rw [List.length_map]; exact partsL_len _
theorem snoc_map_str (L : List ByteArray) (z : ByteArray) : L.map Value.string ++ [Value.string z] = (L ++ [z]).map Value.string := by rw [List.map_append]; rfl
theorem OwnS.lit0 (w : World) {B : Nat} (h : B ≤ w.heap.size) : OwnS (w.alloc (.cells #[] 9)) B (.slice (some ⟨w.heap.size, 0, none⟩) 0 0) [] := own_base (World.ownsRow_lit w #[] 0 (Nat.le_refl _) (by decide) (by simp)) h
noncomputable def lynPR (x : ByteArray) : List ByteArray × Int := if ¬ IsW x then ([], 1) else (partsB x, 0)
theorem lynPR_bad {x : ByteArray} (h : ¬ IsW x) : lynPR x = ([], 1) := if_pos h
theorem lynPR_ok {x : ByteArray} (h : IsW x) : lynPR x = (partsB x, 0) := by unfold lynPR; rw [if_neg (not_not_intro h)]
theorem lynPR_len (x : ByteArray) : (lynPR x).1.length ≤ 4096 := by
  by_cases h : IsW x
  · rw [lynPR_ok h]; have h1 := h.size; have h2 := partsB_len x; show (partsB x).length ≤ 4096; omega
  · rw [lynPR_bad h]; decide

set_option maxRecDepth 100000 in
set_option maxHeartbeats 2000000 in
theorem spec_LyndonParts (x : ByteArray) (w : World) (sx : x.size ≤ maxLen) :
    Calls Try.prog 46 #[.string x] w (RetS (lynPR x).1 (lynPR x).2 w) := by
  obtain ⟨i0, hi, hz0, hz1, hz2⟩ := info_parts infoStr
  by_cases h : IsW x
  · rw [lynPR_ok h]
    have h1 := h.size
    have H := Lib.hid h
    clear h
    go_enter Try.func46, Try.ntmps46
    go_wp2_with fail
    refine (l01Is_yes x _ H.out).mono ?_
    rintro e w1 ⟨rfl, b1⟩
    go_wp2_with fail
    go_loopg [0, 4] x.size (fun g s0 v wr => ∃ (y : ByteArray) (P : List ByteArray), y.size ≤ g ∧ y.size ≤ 60 ∧ P.length + y.size ≤ 60 ∧ s0 = .string y ∧ Hid (P ++ partsB y = partsB x) ∧ OwnS wr w.heap.size v P ∧ Below w.heap.size w wr)
    case atStart => exact ⟨x, [], Nat.le_refl _, h1, by simp; omega, rfl, Lib.hid rfl, OwnS.lit0 w1 b1.size, b1.alloc b1.size _⟩
    case round =>
      obtain ⟨y, P, hyg, hy, hPy, rfl, HP, hown, hB⟩ := hrel
      have hbz := hB.size
      by_cases hp : 0 < y.size
      · obtain ⟨g, rfl⟩ : ∃ g, gk = g + 1 := ⟨gk - 1, by omega⟩
        have hfl := flI_ok (bl_ne hp)
        have f0 := hfl.1
        have f1 := hfl.2.1
        rw [bl_len] at f1
        have FL := Lib.hid hfl
        clear hfl
        have HO := Lib.hid hown
        generalize flI (bl y) = i at *
        clear hown
        go_wp2_with fail
        go_loopg [5, 6] y.size (fun g2 s5 s6 wr2 => ∃ (b m : Nat), m + g2 = y.size + 1 ∧ 2 ≤ m + 1 ∧ s5 = .int .i64 (b : Int) ∧ s6 = .int .i64 ((m : Int) + 1) ∧ 1 ≤ b ∧ b ≤ y.size ∧ (i < m + 1 → b = i) ∧ Below wr.heap.size wr wr2)
        case atStart => exact ⟨1, 1, by omega, by omega, rfl, rfl, by omega, hp, fun h => by omega, Below.refl _ _⟩
        case round =>
          obtain ⟨wo, hwo⟩ : ∃ wo : World, wo = wr := ⟨_, rfl⟩
          obtain ⟨b, m, hm, hm2, rfl, rfl, hb1, hb2, hbi, hB2⟩ := hrel
          have hbz2 := hB2.size
          by_cases hmy : m + 1 ≤ y.size
          · obtain ⟨g2, rfl⟩ : ∃ g2, gk = g2 + 1 := ⟨gk - 1, by omega⟩
            have hsl := fun W => slice_to y ((m : Int) + 1) (m + 1) (by omega) hmy W
            have hys : (y.extract 0 (m + 1)).size ≤ 60 := by simp; omega
            have cL := fun w => l02Lyndon_any (y.extract 0 (m + 1)) w hys
            rw [bl_take] at cL
            by_cases hl : Lyn ((bl y).take (m + 1))
            · have hne : ¬ i < m + 1 := fun c => FL.out.not c (by rw [bl_len]; exact hmy) hl
              rw [lynB_yes hl] at cL
              have CL := Lib.hid cL
              clear hl cL
              go_wp2_with fail
              refine (CL.out _).mono ?_
              rintro e w2 ⟨rfl, b2⟩
              go_wp2_with fail
              go_roundg g2
              case measure => omega
              case rel => exact ⟨m + 1, m + 1, by omega, by omega, by go_num, by go_num, by omega, by omega, fun h => by omega, hB2.then b2⟩
            · have hni : ¬ i = m + 1 := fun c => hl (by rw [← c]; exact FL.out.lyn)
              rw [lynB_no hl] at cL
              have CL := Lib.hid cL
              clear hl cL
              go_wp2_with fail
              refine (CL.out _).mono ?_
              rintro e w2 ⟨rfl, b2⟩
              go_wp2_with fail
              go_roundg g2
              case measure => omega
              case rel => exact ⟨b, m + 1, by omega, by omega, rfl, by go_num, hb1, hb2, fun h => by omega, hB2.then b2⟩
          · have hbe : b = i := hbi (by omega)
            have hown2 := OwnS.below HO.out hB2
            have hB3 : Below w.heap.size w wr := hB.trans (hB2.mono hbz)
            have hst := partsB_step FL.out
            have HS : Hid ((P ++ [y.extract 0 i]) ++ partsB (y.extract i y.size) = partsB x) := Lib.hid (by rw [← HP.out, hst, List.append_assoc]; rfl)
            subst hbe
            have hes : (y.extract 0 b).size = b := by simp; omega
            have hes2 : (y.extract b y.size).size = y.size - b := by simp
            have hPl : P.length ≤ 60 := by omega
            have hbz3 := hB3.size
            have hsl1 := fun W => slice_to y (b : Int) b rfl hb2 W
            have hsl2 := fun W => slice_from y (b : Int) b rfl hb2 W
            clear hst hbi
            generalize y.extract 0 b = t at *
            generalize y.extract b y.size = r at *
            go_wp2_with (at_builtin; refine wpList_append_own _ rfl _ _ 48 rfl w.heap.size 9 i0 (.string ⟨#[]⟩) 1 16 Try.underlying48 hi hz0 hz1 hz2 rfl (by decide) _ _ _ rfl (hown2.alloc _) ⟨_, 0, none⟩ 1 1 [.string t] rfl rfl (cell_new _ _ _) (by intro u hu; simp at hu; subst hu; rfl) (by unfold maxLen; omega) (by omega) (by simp; omega) ?_; intro v' w4 hown' hgrow _)
            go_roundg g
            case measure => omega
            case rel =>
              refine ⟨r, P ++ [t], by omega, by omega, by rw [List.length_append]; simp; omega, rfl, HS, ?_, ?_⟩
              · unfold OwnS; rw [List.length_append, ← snoc_map_str]; exact hown'
              · exact (hB3.alloc hbz3 _).grown hgrow (by simp; omega) (fun q hq => (hown2.lt q hq).1)
      · have hPe : P = partsB x := by rw [← HP.out, partsB_nil (by omega), List.append_nil]
        have HO := Lib.hid hown
        have HE := Lib.hid hPe
        clear hown hPe
        go_wp2
        go_ret2
        rw [← HE.out]
        exact ⟨_, rfl, HO.out, hB⟩
  · rw [lynPR_bad h]
    have H := Lib.hid h
    clear h
    go_enter Try.func46, Try.ntmps46
    go_wp2_with fail
    refine (l01Is_no x _ sx H.out).mono ?_
    rintro e w1 ⟨rfl, b1⟩
    go_wp2_with fail
    go_ret2
    exact ⟨_, rfl, OwnS.nil _ _, b1⟩

set_option maxRecDepth 100000 in
set_option maxHeartbeats 2000000 in
theorem impl_LyndonParts (x : ByteArray) (w : World) (sx : x.size ≤ maxLen) :
    Calls Try.prog 45 #[.string x] w (RetS (lynPR x).1 (lynPR x).2 w) := by
  obtain ⟨i0, hi, hz0, hz1, hz2⟩ := info_parts infoStr
  by_cases h : IsW x
  · rw [lynPR_ok h]
    have h1 := h.size
    have H := Lib.hid h
    clear h
    go_enter Try.func45, Try.ntmps45
    go_wp2_with fail
    refine (isWord_yes x _ H.out).mono ?_
    rintro e w1 ⟨rfl, b1⟩
    go_wp2_with fail
    go_loopg [4, 5, 6] (x.size + 1) (fun g v s5 s6 wr => ∃ (f m : Nat) (P : List ByteArray), m + g = x.size + 1 ∧ f ≤ m ∧ f ≤ x.size ∧ m ≤ x.size ∧ P.length ≤ f ∧ s5 = .int .i64 (f : Int) ∧ s6 = .int .i64 ((m : Int) + 1) ∧
      Hid (P ++ partsB (x.extract f x.size) = partsB x) ∧ Hid (∀ j, f < j → j < m + 1 → ¬ (bl x).drop j < (bl x).drop f) ∧ OwnS wr w.heap.size v P ∧ Below w.heap.size w wr)
    case atStart => exact ⟨0, 0, [], by omega, Nat.le_refl _, by omega, by omega, by simp, rfl, rfl, Lib.hid (by rw [extract_all]; rfl), Lib.hid (fun j h2 h3 => by omega), OwnS.nil _ _, b1⟩
    case round =>
      obtain ⟨f, m, P, hm, hfm, hfx, hmx, hPf, rfl, rfl, HP, HJ, hown, hB⟩ := hrel
      have hbz := hB.size
      by_cases hp : m + 1 ≤ x.size
      · obtain ⟨g, rfl⟩ : ∃ g, gk = g + 1 := ⟨gk - 1, by omega⟩
        have hsl1 := fun W => slice_from x ((m : Int) + 1) (m + 1) (by omega) hp W
        have hsl2 := fun W => slice_from x (f : Int) f rfl hfx W
        by_cases hl : (bl x).drop (m + 1) < (bl x).drop f
        · have hfl : FirstLess (bl (x.extract f x.size)) (m + 1 - f) := by
            rw [bl_drop]
            refine ⟨by omega, by rw [List.length_drop, bl_len]; omega, by rw [List.drop_drop, show f + (m + 1 - f) = m + 1 by omega]; exact hl, fun k k0 k1 => ?_⟩
            rw [List.drop_drop]
            exact HJ.out (f + k) (by omega) (by omega)
          have hst := partsB_step hfl
          have e1 : (x.extract f x.size).extract 0 (m + 1 - f) = x.extract f (m + 1) := bl_inj (by rw [bl_take, bl_drop, bl_extract])
          have e2 : (x.extract f x.size).extract (m + 1 - f) (x.extract f x.size).size = x.extract (m + 1) x.size := bl_inj (by rw [bl_drop, bl_drop, bl_drop, List.drop_drop, show f + (m + 1 - f) = m + 1 by omega])
          rw [e1, e2] at hst
          have HS : Hid ((P ++ [x.extract f (m + 1)]) ++ partsB (x.extract (m + 1) x.size) = partsB x) := Lib.hid (by rw [← HP.out, hst, List.append_assoc]; rfl)
          have d1 : Op.bytesLess (x.extract (m + 1) x.size).toList (x.extract f x.size).toList = true := less_yes (by rw [bl_drop, bl_drop]; exact hl)
          have hsl3 : ∀ W, (Instr.slice 9 (.string x) (some (.int .i64 (f : Int))) (some (.int .i64 ((m : Int) + 1))) none).run Try.prog W = .ok (.string (x.extract f (m + 1))) W := fun W => by
            have := slice_mid x f (m + 1 - f) (by omega) W
            rw [show (f : Int) + ((m + 1 - f : Nat) : Int) = (m : Int) + 1 by omega, show f + (m + 1 - f) = m + 1 by omega] at this
            exact this
          have hts : (x.extract f (m + 1)).size ≤ 60 := by simp; omega
          clear hst hfl e1 e2 hl HP
          generalize x.extract f (m + 1) = t at *
          generalize hr1 : x.extract (m + 1) x.size = r1 at *
          generalize x.extract f x.size = r2 at *
          go_wp2_with fail
          go_quiet (fail)
          go_wp2_with fail
          refine (strings_Clone t _ (by omega)).mono ?_
          rintro e w3 ⟨rfl, b3⟩
          have hB2 : Below w.heap.size w (wr.drewN nq) := hB.drewN _
          have hB3 := hB2.then b3
          have hown3 : OwnS w3 w.heap.size _ P := OwnS.below (w := wr.drewN nq) hown b3
          have hbz3 := hB3.size
          clear hown hB hB2 b3
          go_wp2_with (at_builtin; refine wpList_append_own _ rfl _ _ 48 rfl w.heap.size 9 i0 (.string ⟨#[]⟩) 1 16 Try.underlying48 hi hz0 hz1 hz2 rfl (by decide) _ _ _ rfl (hown3.alloc _) ⟨_, 0, none⟩ 1 1 [.string t] rfl rfl (cell_new _ _ _) (by intro u hu; simp at hu; subst hu; rfl) (by unfold maxLen; omega) (by omega) (by simp; omega) ?_; intro v' w4 hown' hgrow _)
          go_roundg g
          case measure => omega
          case rel =>
            refine ⟨m + 1, m + 1, P ++ [t], by omega, Nat.le_refl _, hp, hp, by rw [List.length_append]; simp; omega, by go_num, by go_num, by rw [hr1]; exact HS, Lib.hid (fun j h2 h3 => by omega), ?_, ?_⟩
            · unfold OwnS; rw [List.length_append, ← snoc_map_str]; exact hown'
            · exact (hB3.alloc hbz3 _).grown hgrow (by simp; omega) (fun q hq => (hown3.lt q hq).1)
        · have d1 : Op.bytesLess (x.extract (m + 1) x.size).toList (x.extract f x.size).toList = false := less_no (by rw [bl_drop, bl_drop]; exact hl)
          have hfm2 : f < m + 1 := by omega
          have HJ2 : Hid (∀ j, f < j → j < m + 1 + 1 → ¬ (bl x).drop j < (bl x).drop f) := Lib.hid fun j h2 h3 => by
            by_cases e : j = m + 1
            · subst e; exact hl
            · exact HJ.out j h2 (by omega)
          clear hl
          generalize x.extract (m + 1) x.size = r1 at *
          generalize hr2 : x.extract f x.size = r2 at *
          go_wp2_with fail
          go_quiet (fail)
          go_wp2_with fail
          go_roundg g
          case measure => omega
          case rel => exact ⟨f, m + 1, P, by omega, by omega, hfx, hp, hPf, rfl, by go_num, by rw [hr2]; exact HP, HJ2, hown, hB.drewN _⟩
      · have hfe : f = x.size := by
          refine Classical.byContradiction fun c => ?_
          refine HJ.out x.size (by omega) (by omega) ?_
          rw [show (bl x).drop x.size = [] from List.drop_eq_nil_of_le (by rw [bl_len]; exact Nat.le_refl _)]
          cases hd : (bl x).drop f with
          | nil => have := congrArg List.length hd; rw [List.length_drop, bl_len] at this; simp at this; omega
          | cons a l => simp
        have hPe : P = partsB x := by rw [← HP.out, hfe, partsB_nil (by simp), List.append_nil]
        have HO := Lib.hid hown
        have HE := Lib.hid hPe
        clear hown hPe
        go_wp2
        go_ret2
        rw [← HE.out]
        exact ⟨_, rfl, HO.out, hB⟩
  · rw [lynPR_bad h]
    have H := Lib.hid h
    clear h
    go_enter Try.func45, Try.ntmps45
    go_wp2_with fail
    refine (isWord_not x _ sx H.out).mono ?_
    rintro e w1 ⟨rfl, b1⟩
    go_wp2_with fail
    go_ret2
    exact ⟨_, rfl, OwnS.nil _ _, b1⟩

end Go.Proofs.Ythjbdcoklgnnlab
