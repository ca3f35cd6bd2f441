/- The model's draws of factors, of thinned words, of places and of lists of words. -/
import Derived.Test.YtlaefpmfbnldfabDrawTwo
namespace Go.Proofs.Ytlaefpmfbnldfab
set_option linter.unusedVariables false
set_option linter.unusedSimpArgs false
open Go.RowKit

/-- What a draw of two numbers comes to. -/
def TwoI (w : World) (e : Ending) (w' : World) : Prop := ∃ (m k : Int), e = .returned (.tuple #[.int .i64 m, .int .i64 k]) ∧ (Lit.int .i64 m).wf = true ∧ (Lit.int .i64 k).wf = true ∧ Below w.heap.size w w'
/-- What a draw of a text and two numbers comes to. -/
def TextII (w : World) (e : Ending) (w' : World) : Prop := ∃ (x : ByteArray) (i m : Int), e = .returned (.tuple #[.string x, .int .i64 i, .int .i64 m]) ∧ x.size ≤ 1000 ∧ (Lit.int .i64 i).wf = true ∧ (Lit.int .i64 m).wf = true ∧ Below w.heap.size w w'
def OneT (w : World) (e : Ending) (w' : World) : Prop := ∃ x : ByteArray, e = .returned (.string x) ∧ x.size ≤ 1000 ∧ Below w.heap.size w w'

set_option maxRecDepth 100000 in
set_option maxHeartbeats 4000000 in
theorem DrawWordsOf_any (a : Option Addr) (len cap : Nat) (zs : List Int) (w : World) (h : IsRow .u8 w a len cap zs) (hl : len ≤ 1048576) :
    Calls Try.prog 92 #[.slice a len cap] w (TwoI w) := by
  have CF := Lib.hid (l01From_any a len cap zs w h hl)
  clear h
  go_enter Try.func92, Try.ntmps92
  go_wp2_with fail
  refine CF.out.mono ?_
  rintro e W0 ⟨rfl, s0, hB0⟩
  have HB0 := s0.ge
  have hl0 := s0.lt
  clear CF
  go_wp2_with fail
  refine (l01Pick_any w _ w.heap.size _ [0, 1, 2, 3, 3, 4, 5, 8, 9, 60, -1, 61] (s0.below (Below.new _ _)) (hB0.alloc hB0.size _) (by simp) (by omega) (by decide) (by decide) (cells_new_ints W0 [0, 1, 2, 3, 3, 4, 5, 8, 9, 60, -1, 61] _)).mono ?_
  rintro e W1 ⟨z, rfl, hz, s1, g1⟩
  have hz2 : -1 ≤ z ∧ z ≤ 61 := by simp at hz; omega
  have hB1 := below_src (hB0.alloc hB0.size _) HB0 g1
  have hl1 := s1.lt
  clear hz s0 hB0 g1 hl0
  go_wp2_with fail
  refine (l01Pick_any w _ w.heap.size _ [1, 2, 2, 3, 4, 5, 0, 6] (s1.below (Below.new _ _)) (hB1.alloc hB1.size _) (by simp) (by omega) (by decide) (by decide) (cells_new_ints W1 [1, 2, 2, 3, 4, 5, 0, 6] _)).mono ?_
  rintro e W2 ⟨y, rfl, hy, s2, g2⟩
  have hy2 : 0 ≤ y ∧ y ≤ 6 := by simp at hy; omega
  have hB2 := below_src (hB1.alloc hB1.size _) HB0 g2
  clear hy s1 hB1 g2
  go_wp2_with fail
  go_ret2
  exact ⟨z, y, rfl, wf_near (by omega) (by omega), wf_near (by omega) (by omega), hB2⟩

set_option maxRecDepth 100000 in
theorem DrawCountLetters_any (a : Option Addr) (len cap : Nat) (zs : List Int) (w : World) (h : IsRow .u8 w a len cap zs) (hl : len ≤ 1048576) :
    Calls Try.prog 95 #[.slice a len cap] w (OneT w) := by
  have CF := Lib.hid (l01From_any a len cap zs w h hl)
  clear h
  go_enter Try.func95, Try.ntmps95
  go_wp2_with fail
  refine CF.out.mono ?_
  rintro e W0 ⟨rfl, s0, hB0⟩
  have HB0 := s0.ge
  have CN := Lib.hid (l01Spoil_any w W0 w.heap.size s0 hB0)
  clear CF
  go_wp2_with fail
  refine CN.out.mono ?_
  rintro e W1 ⟨x, rfl, hx, s1, g1⟩
  have hB1 := below_src hB0 HB0 g1
  go_wp2_with fail
  go_ret
  exact ⟨x, rfl, by omega, hB1⟩

set_option maxRecDepth 100000 in
set_option maxHeartbeats 4000000 in
theorem DrawFactorsOf_any (a : Option Addr) (len cap : Nat) (zs : List Int) (w : World) (h : IsRow .u8 w a len cap zs) (hl : len ≤ 1048576) :
    Calls Try.prog 88 #[.slice a len cap] w (TextI w) := by
  have CF := Lib.hid (l01From_any a len cap zs w h hl)
  clear h
  go_enter Try.func88, Try.ntmps88
  go_wp2_with fail
  refine CF.out.mono ?_
  rintro e W0 ⟨rfl, s0, hB0⟩
  have HB0 := s0.ge
  have CN := Lib.hid (l01Spoil_any w W0 w.heap.size s0 hB0)
  clear CF
  go_wp2_with fail
  refine CN.out.mono ?_
  rintro e W1 ⟨x, rfl, hx, s1, g1⟩
  have hB1 := below_src hB0 HB0 g1
  have CK := Lib.hid (l01Near_any w W1 w.heap.size 60 s1 hB1 (by omega) (by omega))
  clear CN s0 hB0 g1
  go_wp2_with fail
  refine CK.out.mono ?_
  rintro e W2 ⟨k, rfl, k0, k1, s2, g2⟩
  have hB2 := below_src hB1 HB0 g2
  have hl2 := s2.lt
  clear CK s1 hB1 g2
  go_wp2_with fail
  refine (l01Pick_any w _ w.heap.size _ [0, 1, 2, 3, 4, 6, k] (s2.below (Below.new _ _)) (hB2.alloc hB2.size _) (by simp) (by omega) (by simp) (by simp) (cells_new_ints W2 [0, 1, 2, 3, 4, 6, k] _)).mono ?_
  rintro e W3 ⟨z, rfl, hz, s3, g3⟩
  have hz2 : -4611686018427387904 ≤ z ∧ z ≤ 1099511627776 := by simp at hz; omega
  have hB3 := below_src (hB2.alloc hB2.size _) HB0 g3
  clear hz
  go_wp2_with fail
  go_ret2
  exact ⟨x, z, rfl, by omega, wf_near hz2.1 hz2.2, hB3⟩

set_option maxRecDepth 100000 in
set_option maxHeartbeats 4000000 in
theorem DrawFactorAt_any (a : Option Addr) (len cap : Nat) (zs : List Int) (w : World) (h : IsRow .u8 w a len cap zs) (hl : len ≤ 1048576) :
    Calls Try.prog 90 #[.slice a len cap] w (TextII w) := by
  have CF := Lib.hid (l01From_any a len cap zs w h hl)
  clear h
  go_enter Try.func90, Try.ntmps90
  go_wp2_with fail
  refine CF.out.mono ?_
  rintro e W0 ⟨rfl, s0, hB0⟩
  have HB0 := s0.ge
  have CN := Lib.hid (l01Draw_any w W0 w.heap.size s0 hB0)
  clear CF
  go_wp2_with fail
  refine CN.out.mono ?_
  rintro e W1 ⟨x, rfl, hx, s1, g1⟩
  have hB1 := below_src hB0 HB0 g1
  have CK := Lib.hid (l01Near_any w W1 w.heap.size x.size s1 hB1 (by omega) (by omega))
  clear CN s0 hB0 g1
  go_wp2_with fail
  refine CK.out.mono ?_
  rintro e W2 ⟨k, rfl, k0, k1, s2, g2⟩
  have hB2 := below_src hB1 HB0 g2
  clear CK s1 hB1 g2
  have CM := Lib.hid (fun q (q0 : 0 ≤ q) (q1 : q ≤ 1000000000) => l01Near_any w W2 w.heap.size q s2 hB2 q0 q1)
  clear s2
  go_wp2_with fail
  refine (CM.out _ (by omega) (by omega)).mono ?_
  rintro e W3 ⟨m, rfl, m0, m1, s3, g3⟩
  have hB3 := below_src hB2 HB0 g3
  have CB := Lib.hid (l01Bad_any w W3 w.heap.size x s3 hB3 (by omega))
  clear CM g3 s3 hB2
  go_wp2_with fail
  refine CB.out.mono ?_
  rintro e W4 ⟨y, rfl, hy, s4, g4⟩
  have hB4 := below_src hB3 HB0 g4
  go_wp2_with fail
  go_ret3
  exact ⟨y, k, m, rfl, by omega, wf_near k0 k1, wf_near m0 m1, hB4⟩

set_option maxRecDepth 100000 in
set_option maxHeartbeats 4000000 in
theorem l01Inside_any (a : Option Addr) (len cap : Nat) (zs : List Int) (w : World) (h : IsRow .u8 w a len cap zs) (hl : len ≤ 1048576) :
    Calls Try.prog 146 #[.slice a len cap] w (TwoT w) := by
  have CF := Lib.hid (l01From_any a len cap zs w h hl)
  clear h
  go_enter Try.func146, Try.ntmps146
  go_wp2_with fail
  refine CF.out.mono ?_
  rintro e W0 ⟨rfl, s0, hB0⟩
  have HB0 := s0.ge
  have CN := Lib.hid (l01Draw_any w W0 w.heap.size s0 hB0)
  clear CF
  go_wp2_with fail
  refine CN.out.mono ?_
  rintro e W1 ⟨x, rfl, hx, s1, g1⟩
  have hB1 := below_src hB0 HB0 g1
  have CK := Lib.hid (l01Next_i w W1 w.heap.size ((x.size : Int) + 1) s1 hB1 (by omega) (by omega))
  clear CN s0 hB0 g1
  go_wp2_with fail
  refine CK.out.mono ?_
  rintro e W2 ⟨n0, rfl, n1, n2, s2, g2⟩
  obtain ⟨n, rfl⟩ := Int.eq_ofNat_of_zero_le n1
  have hB2 := below_src hB1 HB0 g2
  have hl2 := s2.lt
  have hn : n ≤ x.size := by omega
  clear CK s1 hB1 g2
  go_wp2_with fail
  refine (l01Pick_any w _ w.heap.size _ [2, 4, 9] (s2.below (Below.new _ _)) (hB2.alloc hB2.size _) (by simp) (by omega) (by decide) (by decide) (cells_new_ints W2 [2, 4, 9] _)).mono ?_
  rintro e W3 ⟨z, rfl, hz, s3, g3⟩
  have hz2 : 2 ≤ z ∧ z ≤ 9 := by simp at hz; omega
  have hB3 := below_src (hB2.alloc hB2.size _) HB0 g3
  have CZ := Lib.hid (l01Next_i w W3 w.heap.size z s3 hB3 (by omega) (by omega))
  clear hz s2 hB2 g3 hl2
  go_wp2_with fail
  refine CZ.out.mono ?_
  rintro e W4 ⟨m0, rfl, m1, m2, s4, g4⟩
  obtain ⟨m, rfl⟩ := Int.eq_ofNat_of_zero_le m1
  have hB4 := below_src hB3 HB0 g4
  clear CZ s3 hB3 g4
  go_wp2_with fail
  have hu : (x.extract n (min ((n : Int) + (m : Int)) (x.size : Int)).toNat).size ≤ 60 := by simp; omega
  generalize x.extract n (min ((n : Int) + (m : Int)) (x.size : Int)).toNat = u at *
  have CV := Lib.hid (l01Next_i w W4 w.heap.size 8 s4 hB4 (by omega) (by omega))
  clear s4
  refine CV.out.mono ?_
  rintro e W5 ⟨v, rfl, v0, v1, s5, g5⟩
  have hB5 := below_src hB4 HB0 g5
  clear CV g5 hB4
  by_cases hv : v = 0
  · subst hv
    have CS := Lib.hid (l01Small_any w W5 w.heap.size s5 hB5)
    go_wp2_with fail
    refine CS.out.mono ?_
    rintro e W6 ⟨u2, rfl, hu2, s6, g6⟩
    have hB6 := below_src hB5 HB0 g6
    have CB := Lib.hid (l01Bad_any w W6 w.heap.size x s6 hB6 (by omega))
    go_wp2_with fail
    refine CB.out.mono ?_
    rintro e Wb ⟨xx, rfl, hxx, sb, gb⟩
    have hBb := below_src hB6 HB0 gb
    have CC := Lib.hid (l01Bad_any w Wb w.heap.size u2 sb hBb (by omega))
    go_wp2_with fail
    refine CC.out.mono ?_
    rintro e Wc ⟨yy, rfl, hyy, sc, gc⟩
    have hBc := below_src hBb HB0 gc
    go_wp2_with fail
    go_ret2
    exact ⟨xx, yy, rfl, by omega, by omega, hBc⟩
  · have CB := Lib.hid (l01Bad_any w W5 w.heap.size x s5 hB5 (by omega))
    go_wp2_with fail
    refine CB.out.mono ?_
    rintro e Wb ⟨xx, rfl, hxx, sb, gb⟩
    have hBb := below_src hB5 HB0 gb
    have CC := Lib.hid (l01Bad_any w Wb w.heap.size u sb hBb (by omega))
    go_wp2_with fail
    refine CC.out.mono ?_
    rintro e Wc ⟨yy, rfl, hyy, sc, gc⟩
    have hBc := below_src hBb HB0 gc
    go_wp2_with fail
    go_ret2
    exact ⟨xx, yy, rfl, by omega, by omega, hBc⟩

set_option maxRecDepth 100000 in
set_option maxHeartbeats 4000000 in
theorem l01Thinned_any (a : Option Addr) (len cap : Nat) (zs : List Int) (most : Int) (w : World) (h : IsRow .u8 w a len cap zs) (hl : len ≤ 1048576) (hm0 : 0 ≤ most) (hm : most ≤ 1000) :
    Calls Try.prog 150 #[.slice a len cap, .int .i64 most] w (TwoT w) := by
  have CF := Lib.hid (l01From_any a len cap zs w h hl)
  clear h
  go_enter Try.func150, Try.ntmps150
  go_wp2_with fail
  refine CF.out.mono ?_
  rintro e W0 ⟨rfl, s0, hB0⟩
  have HB0 := s0.ge
  have CN := Lib.hid (l01Draw_any w W0 w.heap.size s0 hB0)
  clear CF
  go_wp2_with fail
  refine CN.out.mono ?_
  rintro e W1 ⟨x, rfl, hx, s1, g1⟩
  have hB1 := below_src hB0 HB0 g1
  have hl1 := s1.lt
  clear CN s0 hB0 g1
  go_wp2_with fail
  refine (l01Pick_any w _ w.heap.size _ [2, 4, 8] (s1.below (Below.new _ _)) (hB1.alloc hB1.size _) (by simp) (by omega) (by decide) (by decide) (cells_new_ints W1 [2, 4, 8] _)).mono ?_
  rintro e W2 ⟨few, rfl, hz, s2, g2⟩
  have hz2 : 2 ≤ few ∧ few ≤ 8 := by simp at hz; omega
  have hB2 := below_src (hB1.alloc hB1.size _) HB0 g2
  clear hz s1 hB1 g2 hl1
  go_wp2_with fail
  go_loopw [8, 10] (fun v i wr => ∃ (k : Nat) (t : ByteArray), k ≤ x.size ∧ v = .string t ∧ i = .int .i64 (k : Int) ∧ t.size ≤ k ∧ Src w wr w.heap.size ∧ Below w.heap.size w wr) (fun _ i _ => x.size - (intOf i).toNat)
  case atStart => exact ⟨0, ⟨#[]⟩, Nat.zero_le _, rfl, rfl, Nat.le_refl _, s2, hB2⟩
  case round =>
    obtain ⟨k, t, hk, rfl, rfl, ht, hs, hB⟩ := hrel
    clear s2 hB2
    by_cases hp : k < x.size
    · have CQ := Lib.hid (l01Next_i w wr w.heap.size few hs hB (by omega) (by omega))
      clear hs
      go_wp2_with fail
      refine CQ.out.mono ?_
      rintro e W3 ⟨q, rfl, q0, q1, s3, g3⟩
      have hB3 := below_src hB HB0 g3
      clear CQ g3 hB
      by_cases hq : q = 0 ∧ (t.size : Int) < most
      · obtain ⟨rfl, hlt⟩ := hq
        have hsl : ∀ W, (Instr.slice 9 (.string x) (some (.int .i64 (k : Int))) (some (.int .i64 ((k : Int) + 1))) none).run Try.prog W = .ok (.string (x.extract k (k + 1))) W := fun W => by
          have := run_slice_string (P := Try.prog) W 9 x .i64 .i64 (k : Int) ((k : Int) + 1) Try.underlying9 (by omega) (by omega) (by omega)
          simpa using this
        have z1 : (x.extract k (k + 1)).size = 1 := by simp; omega
        generalize x.extract k (k + 1) = c at hsl z1
        have hsum : ∀ W, (Op.stringOp .add t c).run Try.prog W = .ok (.string (t ++ c)) W := fun W => run_string_add_sum W t c (by omega)
        have y1 : (t ++ c).size = t.size + c.size := ByteArray.size_append ..
        generalize t ++ c = o1 at hsum y1
        go_wp2
        go_roundw
        case rel => exact ⟨k + 1, o1, by omega, rfl, by go_num, by omega, s3, hB3⟩
        case measure => simp [intOf]; omega
      · by_cases hq0 : q = 0
        · subst hq0
          have hlt : ¬ (t.size : Int) < most := fun h => hq ⟨rfl, h⟩
          clear hq
          go_wp2
          go_roundw
          case rel => exact ⟨k + 1, t, by omega, rfl, by go_num, by omega, s3, hB3⟩
          case measure => simp [intOf]; omega
        · clear hq
          go_wp2
          go_roundw
          case rel => exact ⟨k + 1, t, by omega, rfl, by go_num, by omega, s3, hB3⟩
          case measure => simp [intOf]; omega
    · have CV := Lib.hid (l01Next_i w wr w.heap.size 6 hs hB (by omega) (by omega))
      clear hs
      go_wp2_with fail
      refine CV.out.mono ?_
      rintro e W5 ⟨v, rfl, v0, v1, s5, g5⟩
      have hB5 := below_src hB HB0 g5
      clear CV g5 hB
      by_cases hv : v = 0
      · subst hv
        have CS := Lib.hid (l01Small_any w W5 w.heap.size s5 hB5)
        go_wp2_with fail
        refine CS.out.mono ?_
        rintro e W6 ⟨u2, rfl, hu2, s6, g6⟩
        have hB6 := below_src hB5 HB0 g6
        have CB := Lib.hid (l01Bad_any w W6 w.heap.size u2 s6 hB6 (by omega))
        go_wp2_with fail
        refine CB.out.mono ?_
        rintro e Wb ⟨xx, rfl, hxx, sb, gb⟩
        have hBb := below_src hB6 HB0 gb
        have CC := Lib.hid (l01Bad_any w Wb w.heap.size x sb hBb (by omega))
        go_wp2_with fail
        refine CC.out.mono ?_
        rintro e Wc ⟨yy, rfl, hyy, sc, gc⟩
        have hBc := below_src hBb HB0 gc
        go_wp2_with fail
        go_ret2
        exact ⟨xx, yy, rfl, by omega, by omega, hBc⟩
      · have CB := Lib.hid (l01Bad_any w W5 w.heap.size t s5 hB5 (by omega))
        go_wp2_with fail
        refine CB.out.mono ?_
        rintro e Wb ⟨xx, rfl, hxx, sb, gb⟩
        have hBb := below_src hB5 HB0 gb
        have CC := Lib.hid (l01Bad_any w Wb w.heap.size x sb hBb (by omega))
        go_wp2_with fail
        refine CC.out.mono ?_
        rintro e Wc ⟨yy, rfl, hyy, sc, gc⟩
        have hBc := below_src hBb HB0 gc
        go_wp2_with fail
        go_ret2
        exact ⟨xx, yy, rfl, by omega, by omega, hBc⟩

set_option maxRecDepth 100000 in
theorem DrawPlacesOf_any (a : Option Addr) (len cap : Nat) (zs : List Int) (w : World) (h : IsRow .u8 w a len cap zs) (hl : len ≤ 1048576) :
    Calls Try.prog 78 #[.slice a len cap] w (TwoT w) := by
  have CF := Lib.hid (l01Inside_any a len cap zs w h hl)
  clear h
  go_enter Try.func78, Try.ntmps78
  go_wp2_with fail
  refine CF.out.mono ?_
  rintro e W0 ⟨x, y, rfl, hx, hy, hB0⟩
  go_wp2_with fail
  go_ret2
  exact ⟨x, y, rfl, hx, hy, hB0⟩

set_option maxRecDepth 100000 in
theorem DrawCountScattered_any (a : Option Addr) (len cap : Nat) (zs : List Int) (w : World) (h : IsRow .u8 w a len cap zs) (hl : len ≤ 1048576) :
    Calls Try.prog 84 #[.slice a len cap] w (TwoT w) := by
  have CF := Lib.hid (l01Thinned_any a len cap zs 5 w h hl (by decide) (by decide))
  clear h
  go_enter Try.func84, Try.ntmps84
  go_wp2_with fail
  refine CF.out.mono ?_
  rintro e W0 ⟨x, y, rfl, hx, hy, hB0⟩
  go_wp2_with fail
  go_ret2
  exact ⟨x, y, rfl, hx, hy, hB0⟩

end Go.Proofs.Ytlaefpmfbnldfab
