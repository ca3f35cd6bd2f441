/- The model's draw for roots: some text. -/
import Derived.Test.YtlaefpmfbnldfabDraw3
namespace Go.Proofs.Ytlaefpmfbnldfab
set_option linter.unusedVariables false
set_option linter.unusedSimpArgs false
open Go.RowKit

/-- What a draw of a text comes to. -/
def SomeT (w : World) (e : Ending) (w' : World) : Prop := ∃ x : ByteArray, e = .returned (.string x) ∧ x.size ≤ 1000 ∧ Below w.heap.size w w'
theorem SomeT.maxLen {x : ByteArray} (h : x.size ≤ 1000) : x.size ≤ maxLen := by unfold Go.maxLen; omega

set_option maxRecDepth 100000 in
set_option maxHeartbeats 2000000 in
theorem DrawRootOf_any (a : Option Addr) (len cap : Nat) (zs : List Int) (w : World) (h : IsRow .u8 w a len cap zs) (hl : len ≤ 1048576) :
    Calls Try.prog 12 #[.slice a len cap] w (SomeT w) := by
  have CF := Lib.hid (l01From_any a len cap zs w h hl)
  clear h
  go_enter Try.func12, Try.ntmps12
  go_wp2_with fail
  refine CF.out.mono ?_
  rintro e W0 ⟨rfl, s0, hB0⟩
  have HB0 := s0.ge
  have CN := Lib.hid (l01Next_i w W0 w.heap.size 2 s0 hB0 (by omega) (by omega))
  clear CF
  go_wp2_with fail
  refine CN.out.mono ?_
  rintro e W1 ⟨v, rfl, v0, v1, s1, g1⟩
  have hB1 := below_src hB0 HB0 g1
  clear CN
  by_cases h0 : v = 0
  · subst h0
    have CK := Lib.hid (l01Next_i w W1 w.heap.size 6 s1 hB1 (by omega) (by omega))
    go_wp2_with fail
    refine CK.out.mono ?_
    rintro e W2 ⟨k, rfl, k0, k1, s2, g2⟩
    have hB2 := below_src hB1 HB0 g2
    have hbl2 := s2.lt
    clear CK
    go_wp2_with fail
    refine (l01Pick_any w _ w.heap.size _ [2, 2, 3] (s2.below (Below.new _ _)) (hB2.alloc hB2.size _) (by simp) (by omega) (by decide) (by decide) (cells_new_ints W2 [2, 2, 3] _)).mono ?_
    rintro e W3 ⟨z, rfl, hz, s3, g3⟩
    have hz2 : 1 ≤ z ∧ z ≤ 5 := by simp at hz; omega
    have hB3 := below_src (hB2.alloc hB2.size _) HB0 g3
    clear hz
    go_wp2_with fail
    refine (l01DrawOf_any w _ w.heap.size (1 + k) z s3 hB3 (by omega) (by omega) hz2.1 hz2.2).mono ?_
    rintro e W4 ⟨u, rfl, hu, s4, g4⟩
    have hB4 := below_src hB3 HB0 g4
    have CL := Lib.hid (l01Next_i w W4 w.heap.size 6 s4 hB4 (by omega) (by omega))
    have hus : u.size ≤ 6 := by omega
    clear hu
    go_wp2_with fail
    refine CL.out.mono ?_
    rintro e W5 ⟨q, rfl, q0, q1, s5, g5⟩
    have hB5 := below_src hB4 HB0 g5
    clear CL
    go_wp2_with fail
    go_loopg [5, 6] 6 (fun g s5' s6' wr => ∃ (t : ByteArray) (j : Int), 0 ≤ j ∧ j ≤ g ∧ t.size + j.toNat * 6 ≤ 36 ∧ s5' = .string t ∧ s6' = .int .i64 j ∧ wr = W5)
    case atStart => exact ⟨⟨#[]⟩, 1 + q, by omega, by omega, by show 0 + _ ≤ 36; omega, rfl, rfl, rfl⟩
    case round =>
      obtain ⟨t, j, j0, jg, ht, rfl, rfl, rfl⟩ := hrel
      by_cases hp : 0 < j
      · obtain ⟨g, rfl⟩ : ∃ g, gk = g + 1 := ⟨gk - 1, by omega⟩
        have hsum : ∀ W, (Op.stringOp .add t u).run Try.prog W = .ok (.string (t ++ u)) W := fun W => run_string_add_sum W _ _ (by omega)
        have y1 : (t ++ u).size = t.size + u.size := by rw [ByteArray.size_append]
        generalize t ++ u = o1 at *
        go_wp2
        go_roundg g
        case measure => omega
        case rel => exact ⟨o1, j - 1, by omega, by omega, by omega, rfl, by go_num, by first | rfl | trivial⟩
      · have hts : t.size ≤ 36 := by omega
        have CB := Lib.hid (l01Bad_any w wr w.heap.size t s5 hB5 (by omega))
        go_wp2_with fail
        refine CB.out.mono ?_
        rintro e W6 ⟨y, rfl, hy, s6, g6⟩
        have hB6 := below_src hB5 HB0 g6
        go_wp2_with fail
        go_ret
        exact ⟨y, rfl, by omega, hB6⟩
  · have CS := Lib.hid (l01Spoil_any w W1 w.heap.size s1 hB1)
    go_wp2_with fail
    refine CS.out.mono ?_
    rintro e W2 ⟨y, rfl, hy, s2, g2⟩
    have hB2 := below_src hB1 HB0 g2
    go_wp2_with fail
    go_ret
    exact ⟨y, rfl, by omega, hB2⟩

end Go.Proofs.Ytlaefpmfbnldfab
