/- The different palindromes of a word, and its defect: the program and the model. -/
import Derived.Test.YthjbdcoklgnnlabDfPal
import Derived.Test.YthjbdcoklgnnlabPalEnd
import Derived.Test.YthjbdcoklgnnlabPut
namespace Go.Proofs.Ythjbdcoklgnnlab
set_option linter.unusedVariables false
set_option linter.unusedSimpArgs false
open Go.RowKit

set_option maxRecDepth 100000 in
set_option maxHeartbeats 2000000 in
theorem l04All_any (x : ByteArray) (w : World) (hx : x.size ≤ 60) :
    Calls Try.prog 127 #[.string x] w fun e w' => ∃ v, e = .returned v ∧ OwnS w' w.heap.size v (dfT palT x x.size) ∧ Below w.heap.size w w' := by
  obtain ⟨i0, hi, hz0, hz1, hz2⟩ := info_parts infoStr
  go_enter Try.func127, Try.ntmps127
  go_wp2
  go_loopg [3, 4] x.size (fun g v i wr => ∃ m : Nat, m + g = x.size ∧ i = .int .i64 ((m : Int) + 1) ∧ OwnS wr w.heap.size v (dfT palT x m) ∧ Below w.heap.size w wr)
  case atStart => exact ⟨0, by omega, rfl, World.ownsRow_lit w #[] 0 (Nat.le_refl _) (by decide) (by simp), Below.new _ _⟩
  case round =>
    obtain ⟨m, hm, rfl, hown, hB⟩ := hrel
    by_cases hp : m < x.size
    · obtain ⟨g, rfl⟩ : ∃ g, gk = g + 1 := ⟨gk - 1, by omega⟩
      have hpi : (m : Int) + 1 ≤ (x.size : Int) := by omega
      have hD0 := dfT_len60 palT hx (N := m) (by omega)
      have HD : Hid (dfT palT x (m + 1) = dfT palT x m ++ ownT palT x (m + 1) (x.size - m)) := Lib.hid (by rw [ownT_eq]; rfl)
      generalize dfT palT x m = D at *
      have hbz := hB.size
      have hown0 := hown.below (Below.new wr (.cells #[] 9))
      have hB0 := hB.then (Below.new wr (.cells #[] 9))
      have hE0 : OwnS (wr.alloc (.cells #[] 9)) wr.heap.size (.slice (some ⟨wr.heap.size, 0, none⟩) 0 0) [] := World.ownsRow_lit wr #[] 0 (Nat.le_refl _) (by decide) (by simp)
      obtain ⟨B0, hB0e⟩ : ∃ B0, B0 = wr.heap.size := ⟨_, rfl⟩
      rw [← hB0e] at hE0
      have hB0l : B0 ≤ (wr.alloc (.cells #[] 9)).heap.size := by simp; omega
      have HB0 := Lib.hid hB0e
      clear hB0e
      go_wp2
      go_loopg [5, 6] (x.size - m) (fun g2 v i wr' => ∃ k g0 cap : Nat, k + g2 = x.size - m ∧ i = .int .i64 (k : Int) ∧ v = .slice (some ⟨g0, 0, none⟩) (ownT palT x (m + 1) k).length cap ∧ OwnS wr' B0 (.slice (some ⟨g0, 0, none⟩) (ownT palT x (m + 1) k).length cap) (ownT palT x (m + 1) k) ∧ B0 ≤ wr'.heap.size ∧ OwnS wr' w.heap.size u3 D ∧ Below w.heap.size w wr')
      case atStart => exact ⟨0, wr.heap.size, 0, by omega, rfl, rfl, by rw [HB0.out] at hE0 ⊢; exact hE0, hB0l, hown0, hB0⟩
      case round =>
        clear hown hB hbz hown0 hB0 hE0 hB0l HB0
        obtain ⟨k, g0, cap, hk, rfl, rfl, hownE, hBE, hown, hB⟩ := hrel
        have hlen := ownT_len palT x (m + 1) k
        by_cases hpk : k + (m + 1) ≤ x.size
        · obtain ⟨g2, rfl⟩ : ∃ g, gk = g + 1 := ⟨gk - 1, by omega⟩
          have hle : (k : Int) + ((m : Int) + 1) ≤ (x.size : Int) := by omega
          have hsl : ∀ W, (Instr.slice 9 (.string x) (some (.int .i64 (k : Int))) (some (.int .i64 ((k : Int) + ((m : Int) + 1)))) none).run Try.prog W = .ok (.string (x.extract k (k + (m + 1)))) W := fun W => slice_mid x k (m + 1) hpk W
          have hes : (x.extract k (k + (m + 1))).size ≤ 60 := by simp; omega
          have HH := Lib.hid (ownT_hit (T := palT) (x := x) (m := m + 1) (k := k))
          have HM := Lib.hid (ownT_miss (T := palT) (x := x) (m := m + 1) (k := k))
          have HA := Lib.hid (ownT_asc palT x (m + 1) k)
          have CI := fun w => l04Is_any (x.extract k (k + (m + 1))) w (by omega)
          by_cases ht : palT (x.extract k (k + (m + 1))) = true
          · have HN := Lib.hid (HH.out ht)
            have CI2 : Hid (∀ w, Calls Try.prog 129 #[.string (x.extract k (k + (m + 1)))] w fun e w' => e = .returned (.bool true) ∧ Below w.heap.size w w') := Lib.hid fun w => by
              have := CI w
              rwa [show palB (bl (x.extract k (k + (m + 1)))) = true from ht] at this
            clear HH HM CI ht
            generalize x.extract k (k + (m + 1)) = y at *
            generalize ownT palT x (m + 1) k = L at *
            go_wp2_with (first | (go_at_call 129; refine (CI2.out _).mono ?_; rintro e w2 ⟨rfl, b2⟩; have hownE2 := hownE.below b2; have hown2 := hown.below b2; have hB2 := hB.then b2; have hbz2 := Nat.le_trans hBE b2.size) | (go_at_call 166; refine (l01Put_any B0 g0 cap L y _ hownE2 hbz2 HA.out (by omega) hes).mono ?_; rintro e w3 ⟨g3, cap3, rfl, hownE3, b3⟩))
            go_roundg g2
            case measure => omega
            case rel => exact ⟨k + 1, g3, cap3, by omega, by go_num, by rw [HN.out], by rw [HN.out]; exact hownE3, Nat.le_trans hbz2 b3.size, hown2.below b3, hB2.then b3⟩
          · have ht2 : palT (x.extract k (k + (m + 1))) = false := by simpa using ht
            have HN := Lib.hid (HM.out ht2)
            have CI2 : Hid (∀ w, Calls Try.prog 129 #[.string (x.extract k (k + (m + 1)))] w fun e w' => e = .returned (.bool false) ∧ Below w.heap.size w w') := Lib.hid fun w => by
              have := CI w
              rwa [show palB (bl (x.extract k (k + (m + 1)))) = false from ht2] at this
            clear HH HM CI ht ht2
            generalize x.extract k (k + (m + 1)) = y at *
            generalize ownT palT x (m + 1) k = L at *
            go_wp2_with (go_at_call 129; refine (CI2.out _).mono ?_; rintro e w2 ⟨rfl, b2⟩)
            go_roundg g2
            case measure => omega
            case rel => exact ⟨k + 1, g0, cap, by omega, by go_num, by rw [HN.out], by rw [HN.out]; exact hownE.below b2, Nat.le_trans hBE b2.size, hown.below b2, hB.then b2⟩
        · have hke : k = x.size - m := by omega
          have hle : ¬ (k : Int) + ((m : Int) + 1) ≤ (x.size : Int) := by omega
          have HE : Hid (ownT palT x (m + 1) k = ownT palT x (m + 1) (x.size - m)) := Lib.hid (by rw [hke])
          generalize ownT palT x (m + 1) k = L at *
          have hown2 := hown
          have hB2 := hB
          have hbz2 := hB2.size
          have hcl : ∀ j u, (L.map Value.string)[j]? = some u → wr.cell? ((⟨g0, 0, none⟩ : Addr).add j) = some u := fun j u hj => by
            have hjl : j < L.length := by
              have := (List.getElem?_eq_some_iff.1 hj).1
              simpa using this
            have := hownE.cellAt j (by omega)
            rw [hj] at this
            rw [show ((⟨g0, 0, none⟩ : Addr).add j) = ⟨g0, j, none⟩ by simp [Addr.add]; exact fun h => h.symm]
            exact this
          have HC := Lib.hid hcl
          clear hcl hown hB
          go_wp2_with (at_builtin; refine wpList_append_own _ rfl _ _ 48 rfl w.heap.size 9 i0 (.string ⟨#[]⟩) 1 16 Try.underlying48 hi hz0 hz1 hz2 rfl (by decide) _ _ _ rfl hown2 ⟨g0, 0, none⟩ L.length cap (L.map Value.string) rfl (by simp) HC.out (by intro u hu; obtain ⟨z, _, rfl⟩ := List.mem_map.1 hu; rfl) (by unfold maxLen; omega) (by omega) (by omega) ?_; intro v' w4 hown' hgrow _)
          go_roundg g
          case measure => omega
          case rel =>
            refine ⟨m + 1, by omega, by go_num, ?_, hB2.grown hgrow (by omega) (fun q hq => (hown2.lt q hq).1)⟩
            unfold OwnS
            rw [HD.out, ← HE.out, List.length_append, List.map_append]
            exact hown'
    · have hpi : ¬ (m : Int) + 1 ≤ (x.size : Int) := by omega
      have hke : m = x.size := by omega
      have HO := Lib.hid hown
      clear hown
      go_wp2
      go_ret
      rw [← hke]
      exact ⟨_, rfl, HO.out, hB⟩

set_option maxRecDepth 100000 in
set_option maxHeartbeats 1000000 in
theorem spec_PalindromesOf (x : ByteArray) (w : World) (sx : x.size ≤ maxLen) :
    Calls Try.prog 56 #[.string x] w (RetS (palsR x).1 (palsR x).2 w) := by
  by_cases h : IsW x
  · rw [palsR_ok h]
    have h1 := h.size
    have H := Lib.hid h
    clear h
    go_enter Try.func56, Try.ntmps56
    go_wp2_with fail
    refine (l01Is_yes x _ H.out).mono ?_
    rintro e w1 ⟨rfl, b1⟩
    go_wp2_with fail
    refine (l04All_any x _ h1).mono ?_
    rintro e w2 ⟨v, rfl, o2, b2⟩
    go_wp2_with fail
    go_ret2
    exact ⟨v, rfl, o2.base b1.size, b1.then b2⟩
  · rw [palsR_bad h]
    have H := Lib.hid h
    clear h
    go_enter Try.func56, Try.ntmps56
    go_wp2_with fail
    refine (l01Is_no x _ sx H.out).mono ?_
    rintro e w1 ⟨rfl, b1⟩
    go_wp2_with fail
    go_ret2
    exact ⟨_, rfl, OwnS.nil _ _, b1⟩

set_option maxRecDepth 100000 in
set_option maxHeartbeats 1000000 in
theorem impl_PalindromesOf (x : ByteArray) (w : World) (sx : x.size ≤ maxLen) :
    Calls Try.prog 55 #[.string x] w (RetS (palsR x).1 (palsR x).2 w) := by
  by_cases h : IsW x
  · rw [palsR_ok h]
    have H := Lib.hid h
    clear h
    go_enter Try.func55, Try.ntmps55
    go_wp2_with fail
    refine (isWord_yes x _ H.out).mono ?_
    rintro e w1 ⟨rfl, b1⟩
    go_wp2_with fail
    refine (df_DfPal palT x _ H.out fun z W hz _ => isPal_any z W (by omega)).mono ?_
    rintro e w2 ⟨v, rfl, o2, b2⟩
    go_wp2_with fail
    go_ret2
    exact ⟨v, rfl, o2.base b1.size, b1.then b2⟩
  · rw [palsR_bad h]
    have H := Lib.hid h
    clear h
    go_enter Try.func55, Try.ntmps55
    go_wp2_with fail
    refine (isWord_not x _ sx H.out).mono ?_
    rintro e w1 ⟨rfl, b1⟩
    go_wp2_with fail
    go_ret2
    exact ⟨_, rfl, OwnS.nil _ _, b1⟩

/-- The slice, told by its length. -/
theorem OwnS.form0 {w : World} {B : Nat} {v : Value} {L : List ByteArray} (h : OwnS w B v L) : ∃ a c, v = .slice a L.length c := by
  rcases own_forms h with ⟨rfl, h0, _⟩ | ⟨g, cap, rfl, _⟩
  · exact ⟨_, _, by rw [h0]⟩
  · exact ⟨_, _, rfl⟩

set_option maxRecDepth 100000 in
set_option maxHeartbeats 1000000 in
theorem spec_DefectOf (x : ByteArray) (w : World) (sx : x.size ≤ maxLen) :
    Calls Try.prog 60 #[.string x] w fun e w' => e = .returned (.tuple #[.int .i64 (defR x).1, .int .i64 (defR x).2]) ∧ Below w.heap.size w w' := by
  by_cases h : IsW x
  · rw [defR_ok h]
    have h1 := h.size
    have hl := dfT_len60 palT h1 (N := x.size) (Nat.le_refl _)
    have CA := Lib.hid fun w => l04All_any x w h1
    have H := Lib.hid h
    clear h
    generalize dfT palT x x.size = L at *
    go_enter Try.func60, Try.ntmps60
    go_wp2_with fail
    refine (l01Is_yes x _ H.out).mono ?_
    rintro e w1 ⟨rfl, b1⟩
    go_wp2_with fail
    refine (CA.out _).mono ?_
    rintro e w2 ⟨v, rfl, o2, b2⟩
    obtain ⟨a, c, rfl⟩ := o2.form0
    go_wp2_with fail
    go_ret2
    exact ⟨rfl, b1.then b2⟩
  · rw [defR_bad h]
    have H := Lib.hid h
    clear h
    go_enter Try.func60, Try.ntmps60
    go_wp2_with fail
    refine (l01Is_no x _ sx H.out).mono ?_
    rintro e w1 ⟨rfl, b1⟩
    go_wp2_with fail
    go_ret2
    exact ⟨rfl, b1⟩

set_option maxRecDepth 100000 in
set_option maxHeartbeats 1000000 in
theorem impl_DefectOf (x : ByteArray) (w : World) (sx : x.size ≤ maxLen) :
    Calls Try.prog 59 #[.string x] w fun e w' => e = .returned (.tuple #[.int .i64 (defR x).1, .int .i64 (defR x).2]) ∧ Below w.heap.size w w' := by
  by_cases h : IsW x
  · rw [defR_ok h]
    have h1 := h.size
    have hl := dfT_len60 palT h1 (N := x.size) (Nat.le_refl _)
    have CA : Hid (∀ w, Calls Try.prog 55 #[.string x] w (RetS (dfT palT x x.size) 0 w)) := Lib.hid fun w => by
      have := impl_PalindromesOf x w sx
      rwa [palsR_ok h] at this
    clear h
    generalize dfT palT x x.size = L at *
    go_enter Try.func59, Try.ntmps59
    go_wp2_with fail
    refine (CA.out _).mono ?_
    rintro e w2 ⟨v, rfl, o2, b2⟩
    obtain ⟨a, c, rfl⟩ := o2.form0
    go_wp2_with fail
    go_ret2
    exact ⟨rfl, b2⟩
  · rw [defR_bad h]
    have CA : Hid (∀ w, Calls Try.prog 55 #[.string x] w (RetS [] 1 w)) := Lib.hid fun w => by
      have := impl_PalindromesOf x w sx
      rwa [palsR_bad h] at this
    clear h
    go_enter Try.func59, Try.ntmps59
    go_wp2_with fail
    refine (CA.out _).mono ?_
    rintro e w2 ⟨v, rfl, o2, b2⟩
    go_wp2_with fail
    go_ret2
    exact ⟨rfl, b2⟩

end Go.Proofs.Ythjbdcoklgnnlab
