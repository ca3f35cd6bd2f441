/- The model's draws of two words, of a word and a number. -/
import Derived.Test.YtlaefpmfbnldfabDraw3
namespace Go.Proofs.Ytlaefpmfbnldfab
set_option linter.unusedVariables false
set_option linter.unusedSimpArgs false
open Go.RowKit

/-- What a draw of two texts comes to. -/
def TwoT (w : World) (e : Ending) (w' : World) : Prop := ∃ x y : ByteArray, e = .returned (.tuple #[.string x, .string y]) ∧ x.size ≤ 1000 ∧ y.size ≤ 1000 ∧ Below w.heap.size w w'
/-- What a draw of a text and a number comes to. -/
def TextI (w : World) (e : Ending) (w' : World) : Prop := ∃ (x : ByteArray) (k : Int), e = .returned (.tuple #[.string x, .int .i64 k]) ∧ x.size ≤ 1000 ∧ (Lit.int .i64 k).wf = true ∧ Below w.heap.size w w'
theorem wf_near {k : Int} (h0 : -4611686018427387904 ≤ k) (h1 : k ≤ 1099511627776) : (Lit.int .i64 k).wf = true := by
  simp [Lit.wf, IntKind.min, IntKind.max, IntKind.signed, IntKind.bits]
  omega

set_option maxRecDepth 100000 in
set_option maxHeartbeats 4000000 in
theorem l01Two_any (a : Option Addr) (len cap : Nat) (zs : List Int) (w : World) (h : IsRow .u8 w a len cap zs) (hl : len ≤ 1048576) :
    Calls Try.prog 129 #[.slice a len cap] w (TwoT w) := by
  have CF := Lib.hid (l01From_any a len cap zs w h hl)
  clear h
  go_enter Try.func129, Try.ntmps129
  go_wp2_with fail
  refine CF.out.mono ?_
  rintro e W0 ⟨rfl, s0, hB0⟩
  have HB0 := s0.ge
  have CN := Lib.hid (l01Draw_any w W0 w.heap.size s0 hB0)
  clear CF
  go_wp2_with fail
  refine CN.out.mono ?_
  rintro e W1 ⟨x, rfl, hx, s1, g1⟩
  have hB1 := below_src hB0 HB0 g1
  have CN2 := Lib.hid (l01Draw_any w W1 w.heap.size s1 hB1)
  clear CN s0 hB0 g1
  go_wp2_with fail
  refine CN2.out.mono ?_
  rintro e W2 ⟨u, rfl, hu, s2, g2⟩
  have hB2 := below_src hB1 HB0 g2
  have CN3 := Lib.hid (l01Next_i w W2 w.heap.size ((x.size : Int) + 1) s2 hB2 (by omega) (by omega))
  clear CN2 s1 hB1 g2
  go_wp2_with fail
  refine CN3.out.mono ?_
  rintro e W3 ⟨n0, rfl, n1, n2, s3, g3⟩
  obtain ⟨n, rfl⟩ := Int.eq_ofNat_of_zero_le n1
  have hn : n ≤ x.size := by omega
  have hB3 := below_src hB2 HB0 g3
  have CN4 := Lib.hid (l01Next_i w W3 w.heap.size 5 s3 hB3 (by omega) (by omega))
  clear CN3 s2 hB2 g3
  go_wp2_with fail
  refine CN4.out.mono ?_
  rintro e W4 ⟨v, rfl, v0, v1, s4, g4⟩
  have hB4 := below_src hB3 HB0 g4
  clear CN4 s3 hB3 g4
  by_cases h0 : v = 0
  · subst h0
    have hsl1 := fun W => slice_to x (n : Int) n rfl (by omega) W
    have z1 : (x.extract 0 n).size = n := by simp; omega
    generalize x.extract 0 n = x1 at *
    go_wp2_with fail
    go_region_with (go_at_call 136; refine (l01Small_any w _ w.heap.size (by first | exact s4 | exact s4.below (Below.refl _ _).drew) (by first | exact hB4 | exact hB4.drew)).mono ?_; rintro e W5 ⟨u2, rfl, hu2, s5, g5⟩; have hsum : ∀ W, (Op.stringOp .add x1 u2).run Try.prog W = .ok (.string (x1 ++ u2)) W := (fun W => run_string_add_sum W x1 u2 (by omega)))
    all_goals
      have hB5 : Below w.heap.size w W5 := below_src (by first | exact hB4.drew | exact hB4) HB0 g5
      have y5 : (x1 ++ u2).size = x1.size + u2.size := ByteArray.size_append ..
      generalize x1 ++ u2 = uu at *
      have y6 : uu.size ≤ 900 := by omega
      clear hsum
      by_cases hu60 : 60 < uu.size
      · have hsl := fun W => slice_to uu 60 60 rfl (by omega) W
        have zz : (uu.extract 0 60).size = 60 := by simp; omega
        generalize uu.extract 0 60 = u3 at *
        have CB := Lib.hid (l01Bad_any w W5 w.heap.size x s5 hB5 (by omega))
        go_wp2_with fail
        refine CB.out.mono ?_
        rintro e Wb ⟨xx, rfl, hxx, sb, gb⟩
        have hBb := below_src hB5 HB0 gb
        have CC := Lib.hid (l01Bad_any w Wb w.heap.size u3 sb hBb (by omega))
        go_wp2_with fail
        refine CC.out.mono ?_
        rintro e Wc ⟨yy, rfl, hyy, sc, gc⟩
        have hBc := below_src hBb HB0 gc
        go_wp2_with fail
        go_ret2
        exact ⟨xx, yy, rfl, by omega, by omega, hBc⟩
      · have CB := Lib.hid (l01Bad_any w W5 w.heap.size x s5 hB5 (by omega))
        go_wp2_with fail
        refine CB.out.mono ?_
        rintro e Wb ⟨xx, rfl, hxx, sb, gb⟩
        have hBb := below_src hB5 HB0 gb
        have CC := Lib.hid (l01Bad_any w Wb w.heap.size uu sb hBb (by omega))
        go_wp2_with fail
        refine CC.out.mono ?_
        rintro e Wc ⟨yy, rfl, hyy, sc, gc⟩
        have hBc := below_src hBb HB0 gc
        go_wp2_with fail
        go_ret2
        exact ⟨xx, yy, rfl, by omega, by omega, hBc⟩
  · by_cases h1 : v = 1
    · subst h1
      have hsl1 := fun W => slice_from x (n : Int) n rfl (by omega) W
      have z1 : (x.extract n x.size).size = x.size - n := by simp
      generalize x.extract n x.size = x1 at *
      go_wp2_with fail
      go_region_with (go_at_call 136; refine (l01Small_any w _ w.heap.size (by first | exact s4 | exact s4.below (Below.refl _ _).drew) (by first | exact hB4 | exact hB4.drew)).mono ?_; rintro e W5 ⟨u2, rfl, hu2, s5, g5⟩; have hsum : ∀ W, (Op.stringOp .add u2 x1).run Try.prog W = .ok (.string (u2 ++ x1)) W := (fun W => run_string_add_sum W u2 x1 (by omega)))
      all_goals
        have hB5 : Below w.heap.size w W5 := below_src (by first | exact hB4.drew | exact hB4) HB0 g5
        have y5 : (u2 ++ x1).size = u2.size + x1.size := ByteArray.size_append ..
        generalize u2 ++ x1 = uu at *
        have y6 : uu.size ≤ 900 := by omega
        clear hsum
        by_cases hu60 : 60 < uu.size
        · have hsl := fun W => slice_to uu 60 60 rfl (by omega) W
          have zz : (uu.extract 0 60).size = 60 := by simp; omega
          generalize uu.extract 0 60 = u3 at *
          have CB := Lib.hid (l01Bad_any w W5 w.heap.size x s5 hB5 (by omega))
          go_wp2_with fail
          refine CB.out.mono ?_
          rintro e Wb ⟨xx, rfl, hxx, sb, gb⟩
          have hBb := below_src hB5 HB0 gb
          have CC := Lib.hid (l01Bad_any w Wb w.heap.size u3 sb hBb (by omega))
          go_wp2_with fail
          refine CC.out.mono ?_
          rintro e Wc ⟨yy, rfl, hyy, sc, gc⟩
          have hBc := below_src hBb HB0 gc
          go_wp2_with fail
          go_ret2
          exact ⟨xx, yy, rfl, by omega, by omega, hBc⟩
        · have CB := Lib.hid (l01Bad_any w W5 w.heap.size x s5 hB5 (by omega))
          go_wp2_with fail
          refine CB.out.mono ?_
          rintro e Wb ⟨xx, rfl, hxx, sb, gb⟩
          have hBb := below_src hB5 HB0 gb
          have CC := Lib.hid (l01Bad_any w Wb w.heap.size uu sb hBb (by omega))
          go_wp2_with fail
          refine CC.out.mono ?_
          rintro e Wc ⟨yy, rfl, hyy, sc, gc⟩
          have hBc := below_src hBb HB0 gc
          go_wp2_with fail
          go_ret2
          exact ⟨xx, yy, rfl, by omega, by omega, hBc⟩
    · by_cases h2 : v = 2
      · subst h2
        have CB := Lib.hid (l01Bad_any w W4 w.heap.size x s4 hB4 (by omega))
        go_wp2_with fail
        refine CB.out.mono ?_
        rintro e Wb ⟨xx, rfl, hxx, sb, gb⟩
        have hBb := below_src hB4 HB0 gb
        have CC := Lib.hid (l01Bad_any w Wb w.heap.size x sb hBb (by omega))
        go_wp2_with fail
        refine CC.out.mono ?_
        rintro e Wc ⟨yy, rfl, hyy, sc, gc⟩
        have hBc := below_src hBb HB0 gc
        go_wp2_with fail
        go_ret2
        exact ⟨xx, yy, rfl, by omega, by omega, hBc⟩
      · have CB := Lib.hid (l01Bad_any w W4 w.heap.size x s4 hB4 (by omega))
        go_wp2_with fail
        refine CB.out.mono ?_
        rintro e Wb ⟨xx, rfl, hxx, sb, gb⟩
        have hBb := below_src hB4 HB0 gb
        have CC := Lib.hid (l01Bad_any w Wb w.heap.size u sb hBb (by omega))
        go_wp2_with fail
        refine CC.out.mono ?_
        rintro e Wc ⟨yy, rfl, hyy, sc, gc⟩
        have hBc := below_src hBb HB0 gc
        go_wp2_with fail
        go_ret2
        exact ⟨xx, yy, rfl, by omega, by omega, hBc⟩

set_option maxRecDepth 100000 in
set_option maxHeartbeats 1000000 in
theorem DrawTurnWord_any (a : Option Addr) (len cap : Nat) (zs : List Int) (w : World) (h : IsRow .u8 w a len cap zs) (hl : len ≤ 1048576) :
    Calls Try.prog 61 #[.slice a len cap] w (TextI w) := by
  have CF := Lib.hid (l01From_any a len cap zs w h hl)
  clear h
  go_enter Try.func61, Try.ntmps61
  go_wp2_with fail
  refine CF.out.mono ?_
  rintro e W0 ⟨rfl, s0, hB0⟩
  have HB0 := s0.ge
  have CN := Lib.hid (l01Draw_any w W0 w.heap.size s0 hB0)
  clear CF
  go_wp2_with fail
  refine CN.out.mono ?_
  rintro e W1 ⟨x, rfl, hx, s1, g1⟩
  have hB1 := below_src hB0 HB0 g1
  have CK := Lib.hid (l01Near_any w W1 w.heap.size x.size s1 hB1 (by omega) (by omega))
  clear CN s0 hB0 g1
  go_wp2_with fail
  refine CK.out.mono ?_
  rintro e W2 ⟨k, rfl, k0, k1, s2, g2⟩
  have hB2 := below_src hB1 HB0 g2
  have CB := Lib.hid (l01Bad_any w W2 w.heap.size x s2 hB2 (by omega))
  clear CK s1 hB1 g2
  go_wp2_with fail
  refine CB.out.mono ?_
  rintro e W3 ⟨y, rfl, hy, s3, g3⟩
  have hB3 := below_src hB2 HB0 g3
  go_wp2_with fail
  go_ret2
  exact ⟨y, k, rfl, by omega, wf_near k0 k1, hB3⟩

set_option maxRecDepth 100000 in
set_option maxHeartbeats 1000000 in
theorem DrawPowerOf_any (a : Option Addr) (len cap : Nat) (zs : List Int) (w : World) (h : IsRow .u8 w a len cap zs) (hl : len ≤ 1048576) :
    Calls Try.prog 63 #[.slice a len cap] w (TextI w) := by
  have CF := Lib.hid (l01From_any a len cap zs w h hl)
  clear h
  go_enter Try.func63, Try.ntmps63
  go_wp2_with fail
  refine CF.out.mono ?_
  rintro e W0 ⟨rfl, s0, hB0⟩
  have HB0 := s0.ge
  have CN := Lib.hid (l01Small_any w W0 w.heap.size s0 hB0)
  clear CF
  go_wp2_with fail
  refine CN.out.mono ?_
  rintro e W1 ⟨x, rfl, hx, s1, g1⟩
  have hB1 := below_src hB0 HB0 g1
  have CK := Lib.hid (l01Next_i w W1 w.heap.size 4 s1 hB1 (by omega) (by omega))
  clear CN s0 hB0 g1
  go_wp2_with fail
  refine CK.out.mono ?_
  rintro e W2 ⟨v, rfl, v0, v1, s2, g2⟩
  have hB2 := below_src hB1 HB0 g2
  clear CK s1 hB1 g2
  by_cases h0 : v = 0
  · subst h0
    have CS := Lib.hid (l01Spoil_any w W2 w.heap.size s2 hB2)
    go_wp2_with fail
    refine CS.out.mono ?_
    rintro e W3 ⟨y, rfl, hy, s3, g3⟩
    have hB3 := below_src hB2 HB0 g3
    have CB := Lib.hid (l01Bad_any w W3 w.heap.size y s3 hB3 (by omega))
    go_wp2_with fail
    refine CB.out.mono ?_
    rintro e Wb ⟨xx, rfl, hxx, sb, gb⟩
    have hBb := below_src hB3 HB0 gb
    have hbl := sb.lt
    go_wp2_with fail
    refine (l01Pick_any w _ w.heap.size _ [0, 1, 2, 3, 4, 6, 60, 1000, -1, 1001] (sb.below (Below.new _ _)) (hBb.alloc hBb.size _) (by simp) (by omega) (by decide) (by decide) (cells_new_ints Wb [0, 1, 2, 3, 4, 6, 60, 1000, -1, 1001] _)).mono ?_
    rintro e Wc ⟨z, rfl, hz, sc, gc⟩
    have hz2 : -1 ≤ z ∧ z ≤ 1001 := by simp at hz; omega
    have hBc := below_src (hBb.alloc hBb.size _) HB0 gc
    clear hz
    go_wp2_with fail
    go_ret2
    exact ⟨xx, z, rfl, by omega, wf_near (by omega) (by omega), hBc⟩
  · have CB := Lib.hid (l01Bad_any w W2 w.heap.size x s2 hB2 (by omega))
    go_wp2_with fail
    refine CB.out.mono ?_
    rintro e Wb ⟨xx, rfl, hxx, sb, gb⟩
    have hBb := below_src hB2 HB0 gb
    have hbl := sb.lt
    go_wp2_with fail
    refine (l01Pick_any w _ w.heap.size _ [0, 1, 2, 3, 4, 6, 60, 1000, -1, 1001] (sb.below (Below.new _ _)) (hBb.alloc hBb.size _) (by simp) (by omega) (by decide) (by decide) (cells_new_ints Wb [0, 1, 2, 3, 4, 6, 60, 1000, -1, 1001] _)).mono ?_
    rintro e Wc ⟨z, rfl, hz, sc, gc⟩
    have hz2 : -1 ≤ z ∧ z ≤ 1001 := by simp at hz; omega
    have hBc := below_src (hBb.alloc hBb.size _) HB0 gc
    clear hz
    go_wp2_with fail
    go_ret2
    exact ⟨xx, z, rfl, by omega, wf_near (by omega) (by omega), hBc⟩

set_option maxRecDepth 100000 in
theorem DrawProductOf_any (a : Option Addr) (len cap : Nat) (zs : List Int) (w : World) (h : IsRow .u8 w a len cap zs) (hl : len ≤ 1048576) :
    Calls Try.prog 49 #[.slice a len cap] w (TwoT w) := by
  have CF := Lib.hid (l01Two_any a len cap zs w h hl)
  clear h
  go_enter Try.func49, Try.ntmps49
  go_wp2_with fail
  refine CF.out.mono ?_
  rintro e W0 ⟨x, y, rfl, hx, hy, hB0⟩
  go_wp2_with fail
  go_ret2
  exact ⟨x, y, rfl, hx, hy, hB0⟩

set_option maxRecDepth 100000 in
theorem DrawCompareWords_any (a : Option Addr) (len cap : Nat) (zs : List Int) (w : World) (h : IsRow .u8 w a len cap zs) (hl : len ≤ 1048576) :
    Calls Try.prog 68 #[.slice a len cap] w (TwoT w) := by
  have CF := Lib.hid (l01Two_any a len cap zs w h hl)
  clear h
  go_enter Try.func68, Try.ntmps68
  go_wp2_with fail
  refine CF.out.mono ?_
  rintro e W0 ⟨x, y, rfl, hx, hy, hB0⟩
  go_wp2_with fail
  go_ret2
  exact ⟨x, y, rfl, hx, hy, hB0⟩

end Go.Proofs.Ytlaefpmfbnldfab
