/- Right special, left special and bispecial factors: the program's functions. -/
import Derived.Test.YtbhgghajbdlfkabGreatSpF
namespace Go.Proofs.YtbhgghajbdlfkabGreat
set_option linter.unusedVariables false
set_option linter.unusedSimpArgs false
open Go.RowKit

theorem fac_small (x : ByteArray) (m : Int) : (factorsR x m).1 ≠ [] → x.size ≤ 60 := by
  intro h
  by_cases hw : IsW x
  · exact hw.size
  · rw [factorsR_bad hw] at h
    exact absurd rfl h

set_option maxRecDepth 100000 in
set_option maxHeartbeats 1000000 in
theorem implK_RightSpecial (x : ByteArray) (m : Int) (w : World) (sx : x.size ≤ maxLen) (wm : (Lit.int .i64 m).wf = true) (hM : MaxOK5 w) :
    Calls Tryz.prog 10 #[.string x, .int .i64 m] w (RetS (filtK x [true] (factorsR x m).1) (factorsR x m).2 w) := by
  have HS : Hid (∀ (g c : Nat) (us : List Value) (w : World), us.length = 1 → g < w.heap.size → 1 ≤ c → (∀ j (hj : j < us.length), w.cell? ⟨g, j, none⟩ = some (us[j]'hj)) → (∀ j (hj : j < us.length) (hj2 : j < ([true] : List Bool).length), TestAt x w (us[j]'hj) (([true] : List Bool)[j]'hj2)) → MaxOK5 w →
      Calls Tryz.prog 71 #[.string x, .int .i64 m, .slice (some ⟨g, 0, none⟩) 1 c] w (RetS (filtK x [true] (factorsR x m).1) (factorsR x m).2 w)) :=
    Lib.hid fun g c us w h1 h2 h3 h4 h5 h6 => specialFactors_any x m [true] g c us w sx wm (by decide) h1 h2 h3 h4 h5 h6 (fac_small x m)
  generalize filtK x [true] (factorsR x m).1 = L at *
  generalize (factorsR x m).2 = cd at *
  have HM := Lib.hid hM
  clear hM
  go_enter Tryz.func10, Tryz.ntmps10
  go_wp2_with fail
  refine (rightSpecialIn_any x _).mono ?_
  rintro e w1 ⟨v1, rfl, t1, b1⟩
  obtain ⟨p1, q1, rfl, _⟩ := id t1
  have BB : Below w.heap.size w w1 := b1
  have hA := heap_alloc_new w1 (.cells #[(.func (.func 161) #[] #[.pointer (some ⟨p1, 0, none⟩), .pointer (some ⟨q1, 0, none⟩)])] 62)
  have bA := Below.new w1 (.cells #[(.func (.func 161) #[] #[.pointer (some ⟨p1, 0, none⟩), .pointer (some ⟨q1, 0, none⟩)])] 62)
  have t1 := t1.below bA
  have HS2 := Lib.hid (HS.out w1.heap.size 1 [(.func (.func 161) #[] #[.pointer (some ⟨p1, 0, none⟩), .pointer (some ⟨q1, 0, none⟩)])] (w1.alloc (.cells #[(.func (.func 161) #[] #[.pointer (some ⟨p1, 0, none⟩), .pointer (some ⟨q1, 0, none⟩)])] 62)) rfl (by simp) (Nat.le_refl _)
    (fun j hj => by
      obtain rfl : j = 0 := by simpa using hj
      exact cell_of_heapF hA 0)
    (fun j hj hj2 => by
      obtain rfl : j = 0 := by simpa using hj
      exact t1) (HM.out.below (BB.then bA)))
  have HB := Lib.hid (BB.then bA)
  go_wp2_with fail
  refine HS2.out.mono ?_
  rintro e w9 ⟨v9, rfl, o9, b9⟩
  go_wp2_with fail
  go_ret2
  exact ⟨_, rfl, OwnS.base o9 (by have := HB.out.size; exact this), HB.out.then b9⟩

set_option maxRecDepth 100000 in
set_option maxHeartbeats 1000000 in
theorem implK_LeftSpecial (x : ByteArray) (m : Int) (w : World) (sx : x.size ≤ maxLen) (wm : (Lit.int .i64 m).wf = true) (hM : MaxOK5 w) :
    Calls Tryz.prog 12 #[.string x, .int .i64 m] w (RetS (filtK x [false] (factorsR x m).1) (factorsR x m).2 w) := by
  have HS : Hid (∀ (g c : Nat) (us : List Value) (w : World), us.length = 1 → g < w.heap.size → 1 ≤ c → (∀ j (hj : j < us.length), w.cell? ⟨g, j, none⟩ = some (us[j]'hj)) → (∀ j (hj : j < us.length) (hj2 : j < ([false] : List Bool).length), TestAt x w (us[j]'hj) (([false] : List Bool)[j]'hj2)) → MaxOK5 w →
      Calls Tryz.prog 71 #[.string x, .int .i64 m, .slice (some ⟨g, 0, none⟩) 1 c] w (RetS (filtK x [false] (factorsR x m).1) (factorsR x m).2 w)) :=
    Lib.hid fun g c us w h1 h2 h3 h4 h5 h6 => specialFactors_any x m [false] g c us w sx wm (by decide) h1 h2 h3 h4 h5 h6 (fac_small x m)
  generalize filtK x [false] (factorsR x m).1 = L at *
  generalize (factorsR x m).2 = cd at *
  have HM := Lib.hid hM
  clear hM
  go_enter Tryz.func12, Tryz.ntmps12
  go_wp2_with fail
  refine (leftSpecialIn_any x _).mono ?_
  rintro e w1 ⟨v1, rfl, t1, b1⟩
  obtain ⟨p1, q1, rfl, _⟩ := id t1
  have BB : Below w.heap.size w w1 := b1
  have hA := heap_alloc_new w1 (.cells #[(.func (.func 161) #[] #[.pointer (some ⟨p1, 0, none⟩), .pointer (some ⟨q1, 0, none⟩)])] 62)
  have bA := Below.new w1 (.cells #[(.func (.func 161) #[] #[.pointer (some ⟨p1, 0, none⟩), .pointer (some ⟨q1, 0, none⟩)])] 62)
  have t1 := t1.below bA
  have HS2 := Lib.hid (HS.out w1.heap.size 1 [(.func (.func 161) #[] #[.pointer (some ⟨p1, 0, none⟩), .pointer (some ⟨q1, 0, none⟩)])] (w1.alloc (.cells #[(.func (.func 161) #[] #[.pointer (some ⟨p1, 0, none⟩), .pointer (some ⟨q1, 0, none⟩)])] 62)) rfl (by simp) (Nat.le_refl _)
    (fun j hj => by
      obtain rfl : j = 0 := by simpa using hj
      exact cell_of_heapF hA 0)
    (fun j hj hj2 => by
      obtain rfl : j = 0 := by simpa using hj
      exact t1) (HM.out.below (BB.then bA)))
  have HB := Lib.hid (BB.then bA)
  go_wp2_with fail
  refine HS2.out.mono ?_
  rintro e w9 ⟨v9, rfl, o9, b9⟩
  go_wp2_with fail
  go_ret2
  exact ⟨_, rfl, OwnS.base o9 (by have := HB.out.size; exact this), HB.out.then b9⟩

set_option maxRecDepth 100000 in
set_option maxHeartbeats 1000000 in
theorem implK_Bispecial (x : ByteArray) (m : Int) (w : World) (sx : x.size ≤ maxLen) (wm : (Lit.int .i64 m).wf = true) (hM : MaxOK5 w) :
    Calls Tryz.prog 8 #[.string x, .int .i64 m] w (RetS (filtK x [true, false] (factorsR x m).1) (factorsR x m).2 w) := by
  have HS : Hid (∀ (g c : Nat) (us : List Value) (w : World), us.length = 2 → g < w.heap.size → 2 ≤ c → (∀ j (hj : j < us.length), w.cell? ⟨g, j, none⟩ = some (us[j]'hj)) → (∀ j (hj : j < us.length) (hj2 : j < ([true, false] : List Bool).length), TestAt x w (us[j]'hj) (([true, false] : List Bool)[j]'hj2)) → MaxOK5 w →
      Calls Tryz.prog 71 #[.string x, .int .i64 m, .slice (some ⟨g, 0, none⟩) 2 c] w (RetS (filtK x [true, false] (factorsR x m).1) (factorsR x m).2 w)) :=
    Lib.hid fun g c us w h1 h2 h3 h4 h5 h6 => specialFactors_any x m [true, false] g c us w sx wm (by decide) h1 h2 h3 h4 h5 h6 (fac_small x m)
  generalize filtK x [true, false] (factorsR x m).1 = L at *
  generalize (factorsR x m).2 = cd at *
  have HM := Lib.hid hM
  clear hM
  go_enter Tryz.func8, Tryz.ntmps8
  go_wp2_with fail
  refine (rightSpecialIn_any x _).mono ?_
  rintro e w1 ⟨v1, rfl, t1, b1⟩
  obtain ⟨p1, q1, rfl, _⟩ := id t1
  go_wp2_with fail
  refine (leftSpecialIn_any x _).mono ?_
  rintro e w2 ⟨v2, rfl, t2, b2⟩
  obtain ⟨p2, q2, rfl, _⟩ := id t2
  have t1 := t1.below b2
  have BB : Below w.heap.size w w2 := b1.then b2
  have hA := heap_alloc_new w2 (.cells #[(.func (.func 161) #[] #[.pointer (some ⟨p1, 0, none⟩), .pointer (some ⟨q1, 0, none⟩)]), (.func (.func 161) #[] #[.pointer (some ⟨p2, 0, none⟩), .pointer (some ⟨q2, 0, none⟩)])] 62)
  have bA := Below.new w2 (.cells #[(.func (.func 161) #[] #[.pointer (some ⟨p1, 0, none⟩), .pointer (some ⟨q1, 0, none⟩)]), (.func (.func 161) #[] #[.pointer (some ⟨p2, 0, none⟩), .pointer (some ⟨q2, 0, none⟩)])] 62)
  have t1 := t1.below bA
  have t2 := t2.below bA
  have HS2 := Lib.hid (HS.out w2.heap.size 2 [(.func (.func 161) #[] #[.pointer (some ⟨p1, 0, none⟩), .pointer (some ⟨q1, 0, none⟩)]), (.func (.func 161) #[] #[.pointer (some ⟨p2, 0, none⟩), .pointer (some ⟨q2, 0, none⟩)])] (w2.alloc (.cells #[(.func (.func 161) #[] #[.pointer (some ⟨p1, 0, none⟩), .pointer (some ⟨q1, 0, none⟩)]), (.func (.func 161) #[] #[.pointer (some ⟨p2, 0, none⟩), .pointer (some ⟨q2, 0, none⟩)])] 62)) rfl (by simp) (Nat.le_refl _)
    (fun j hj => by
      have hj3 : j < 2 := hj
      match j, hj3 with
      | 0, _ => exact cell_of_heapF hA 0
      | 1, _ => exact cell_of_heapF hA 1)
    (fun j hj hj2 => by
      have hj3 : j < 2 := hj
      match j, hj3 with
      | 0, _ => exact t1
      | 1, _ => exact t2) (HM.out.below (BB.then bA)))
  have HB := Lib.hid (BB.then bA)
  go_wp2_with fail
  refine HS2.out.mono ?_
  rintro e w9 ⟨v9, rfl, o9, b9⟩
  go_wp2_with fail
  go_ret2
  exact ⟨_, rfl, OwnS.base o9 (by have := HB.out.size; exact this), HB.out.then b9⟩

end Go.Proofs.YtbhgghajbdlfkabGreat
