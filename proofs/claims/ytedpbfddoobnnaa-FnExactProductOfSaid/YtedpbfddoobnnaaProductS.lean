/- Products: the model's. -/
import Derived.Test.YtedpbfddoobnnaaWords
namespace Go.Proofs.Ytedpbfddoobnnaa
open Go.RowKit

set_option maxRecDepth 100000 in
theorem l01Told_any (x : ByteArray) (w : World) (sx : x.size ≤ maxLen) :
    Calls Try.prog 81 #[.string x] w fun e w' => e = .returned (.tuple #[.string (if 60 < x.size then ⟨#[]⟩ else x), .int .i64 (if 60 < x.size then 3 else 0)]) ∧ Below w.heap.size w w' := by
  unfold maxLen at sx
  by_cases h : 60 < x.size
  · rw [if_pos h, if_pos h]
    go_enter Try.func81, Try.ntmps81
    go_wp2
    go_ret2
    exact ⟨rfl, Below.refl _ _⟩
  · rw [if_neg h, if_neg h]
    go_enter Try.func81, Try.ntmps81
    go_wp2
    go_ret2
    exact ⟨rfl, Below.refl _ _⟩

set_option maxRecDepth 100000 in
theorem spec_ProductOf (x y : ByteArray) (w : World) (sx : x.size ≤ maxLen) (sy : y.size ≤ maxLen) :
    Calls Try.prog 18 #[.string x, .string y] w fun e w' => e = .returned (.tuple #[.string (productR x y).1, .int .i64 (productR x y).2]) ∧ Below w.heap.size w w' := by
  by_cases h1 : IsW x
  · by_cases h2 : IsW y
    · have s1 := h1.size
      have s2 := h2.size
      have hz : (x ++ y).size = x.size + y.size := ByteArray.size_append
      have hr : productR x y = (if 60 < (x ++ y).size then ⟨#[]⟩ else x ++ y, if 60 < (x ++ y).size then 3 else 0) := by
        rw [hz]
        by_cases hl : 60 < x.size + y.size
        · rw [productR_long ⟨h1, h2⟩ hl, if_pos hl, if_pos hl]
        · rw [productR_ok ⟨h1, h2⟩ hl, if_neg hl, if_neg hl]
      rw [hr]
      have hzz : (x ++ y).size ≤ maxLen := by rw [hz]; unfold maxLen; omega
      have HZ := Lib.hid hz
      clear hr hz
      have H1 := Lib.hid h1
      have H2 := Lib.hid h2
      clear h1 h2
      generalize hg1 : (if 60 < (x ++ y).size then (⟨#[]⟩ : ByteArray) else x ++ y) = g1
      generalize hg2 : (if 60 < (x ++ y).size then (3 : Int) else 0) = g2
      have G1 := Lib.hid hg1
      have G2 := Lib.hid hg2
      clear hg1 hg2
      go_enter Try.func18, Try.ntmps18
      go_wp2_with fail
      refine (l01Is_yes x _ H1.out).mono ?_
      rintro e w1 ⟨rfl, b1⟩
      go_wp2_with fail
      refine (l01Is_yes y _ H2.out).mono ?_
      rintro e w2 ⟨rfl, b2⟩
      go_wp2_with fail
      refine (l01Told_any (x ++ y) _ hzz).mono ?_
      rintro e w3 ⟨rfl, b3⟩
      rw [G1.out, G2.out]
      go_wp2_with fail
      go_ret2
      exact ⟨rfl, (b1.trans (b2.mono b1.size)).trans (b3.mono (Nat.le_trans b1.size b2.size))⟩
    · rw [productR_bad (fun h => h2 h.2)]
      have H1 := Lib.hid h1
      have H2 := Lib.hid h2
      clear h1 h2
      go_enter Try.func18, Try.ntmps18
      go_wp2_with fail
      refine (l01Is_yes x _ H1.out).mono ?_
      rintro e w1 ⟨rfl, b1⟩
      go_wp2_with fail
      refine (l01Is_no y _ sy H2.out).mono ?_
      rintro e w2 ⟨rfl, b2⟩
      go_wp2_with fail
      go_ret2
      exact ⟨rfl, b1.trans (b2.mono b1.size)⟩
  · rw [productR_bad (fun h => h1 h.1)]
    have H1 := Lib.hid h1
    clear h1
    go_enter Try.func18, Try.ntmps18
    go_wp2_with (go_at_call 80; refine (l01Is_no x _ sx H1.out).mono ?_; rintro e w1 ⟨rfl, b1⟩)
    go_ret2
    exact ⟨rfl, b1⟩

end Go.Proofs.Ytedpbfddoobnnaa
