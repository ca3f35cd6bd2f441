/- The model's draws: a word, often one with repeats. -/
import Derived.Test.YtinanajagkilaaaDraw2
import Derived.Test.YtinanajagkilaaaNamedS
import Derived.Test.YtinanajagkilaaaOwn
import Derived.Deep.RegionHeld3
namespace Go.Proofs.Ytinanajagkilaaa
set_option linter.unusedVariables false
set_option linter.unusedSimpArgs false
open Go.RowKit

def namesL : List ByteArray := [⟨#[102, 105, 98, 111, 110, 97, 99, 99, 105]⟩, ⟨#[116, 104, 117, 101]⟩, ⟨#[100, 111, 117, 98, 108, 105, 110, 103]⟩, ⟨#[116, 114, 105, 112, 108, 101]⟩]
theorem namesL_way : ∀ j (h : j < namesL.length), way (namesL[j]'h) j := by
  intro j h
  match j, h with
  | 0, _ | 1, _ | 2, _ | 3, _ =>
    unfold way
    simp only [ByteArray.toList_eq, namesL, List.getElem_cons_zero, List.getElem_cons_succ]
    decide
  | j + 4, h => simp [namesL] at h; omega

set_option maxRecDepth 100000 in
theorem l01Names_any (w : World) :
    Calls Try.prog 165 #[] w fun e w' => e = .returned (.slice (some ⟨w.heap.size, 0, none⟩) 4 4) ∧ w' = w.alloc (.cells (namesL.map Value.string).toArray 9) := by
  go_enter Try.func165, Try.ntmps165
  go_wp2
  go_ret
  exact ⟨rfl, rfl⟩

theorem names_alloc {W : World} {g : Nat} {o : Obj} (h : ∀ j (h : j < namesL.length), W.cell? ⟨g, j, none⟩ = some (.string (namesL[j]'h))) (hg : g < W.heap.size) : ∀ j (h : j < namesL.length), (W.alloc o).cell? ⟨g, j, none⟩ = some (.string (namesL[j]'h)) := fun j hj => by
  rw [(Below.new W o).cell (p := ⟨g, j, none⟩) hg]; exact h j hj
theorem names_grown {W W' : World} {g b : Nat} (h : ∀ j (h : j < namesL.length), W.cell? ⟨g, j, none⟩ = some (.string (namesL[j]'h))) (hg : g < W.heap.size) (hb : g ≠ b) (k : W.grownBy W' (some b)) : ∀ j (h : j < namesL.length), W'.cell? ⟨g, j, none⟩ = some (.string (namesL[j]'h)) := fun j hj => by
  rw [grown_cell k (p := ⟨g, j, none⟩) hg (fun e => hb (Option.some.inj e))]; exact h j hj

set_option maxRecDepth 100000 in
set_option maxHeartbeats 4000000 in
theorem l01Draw_any (w0 W : World) (b : Nat) (hS : Src w0 W b) (hB : Below w0.heap.size w0 W) :
    Calls Try.prog 146 #[.pointer (some ⟨b, 0, none⟩)] W (DrawnT 60 w0 W b) := by
  have HB0 := hS.ge
  have CN := Lib.hid (l01Next_i w0 W b 6 hS hB (by omega) (by omega))
  clear hS
  go_enter Try.func146, Try.ntmps146
  go_wp2_with fail
  refine CN.out.mono ?_
  rintro e W1 ⟨v, rfl, v0, v1, s1, g1⟩
  have hB1 := below_src hB HB0 g1
  have hbl := s1.lt
  by_cases h0 : v = 0
  · subst h0
    go_wp2_with fail
    refine (l01Names_any _).mono ?_
    rintro e W2 ⟨rfl, hW2⟩
    have s2 : Src w0 W2 b := by rw [hW2]; exact s1.below (Below.new _ _)
    have hB2 : Below w0.heap.size w0 W2 := by rw [hW2]; exact hB1.alloc hB1.size _
    have g2 : W1.grownBy W2 (some b) := by rw [hW2]; exact grown_of_below (Below.new _ _) _
    have hcn : ∀ j (h : j < namesL.length), W2.cell? ⟨W1.heap.size, j, none⟩ = some (.string (namesL[j]'h)) := by rw [hW2]; exact cells_new_strs W1 namesL 9
    have hz2 : W1.heap.size < W2.heap.size := by rw [hW2]; simp
    have hgb : W1.heap.size ≠ b := by omega
    have hcD : ∀ j (h : j < namesL.length), W2.drew.cell? ⟨W1.heap.size, j, none⟩ = some (.string (namesL[j]'h)) := hcn
    have HW := Lib.hid namesL_way
    have hcE : ∀ j (h : j < namesL.length), (W2.alloc (.cells #[.int .i64 12, .int .i64 30, .int .i64 61] 2)).drew.cell? ⟨W1.heap.size, j, none⟩ = some (.string (namesL[j]'h)) := names_alloc hcn hz2
    have hLE : ∀ j (h : j < [12, 30, 61].length), (W2.alloc (.cells #[.int .i64 12, .int .i64 30, .int .i64 61] 2)).drew.cell? ⟨W2.heap.size, j, none⟩ = some (.int .i64 ([12, 30, 61][j]'h)) := cells_new_ints W2 [12, 30, 61] 2
    have hzE : (W2.alloc (.cells #[.int .i64 12, .int .i64 30, .int .i64 61] 2)).drew.heap.size = W2.heap.size + 1 := by show (W2.alloc _).heap.size = _; simp
    have hBE : Below w0.heap.size w0 (W2.alloc (.cells #[.int .i64 12, .int .i64 30, .int .i64 61] 2)).drew := (hB2.alloc hB2.size _).drew
    have hb2l := s2.lt
    clear hW2 CN hcn
    have hz2d : W1.heap.size < W2.drew.heap.size := hz2
    generalize hgg : W1.heap.size = gn at *
    go_wp2_with fail
    go_region_held3 (fun w' => ∀ j (h : j < namesL.length), w'.cell? ⟨gn, j, none⟩ = some (.string (namesL[j]'h))) (first | assumption | exact names_alloc (by assumption) (by first | omega | (simp; omega)))
     (first
      | (go_at_call 119; refine CC.out.mono ?_; clear CC; rintro e Wc ⟨vc, rfl, vc0, vc1, sc, gc⟩; obtain ⟨q, rfl⟩ := Int.eq_ofNat_of_zero_le vc0; have kc := names_grown kb hzb hgb gc; have hzc : gn < Wc.heap.size := Nat.lt_of_lt_of_le hzb gc.size; have CD := Lib.hid (l01Named_some (namesL[m]'hm) q m Wc (by omega) (by omega) (HW.out m hm)))
      | (go_at_call 119; refine (l01Next_i w0 _ b 4 (by first | exact s2 | exact s2.below (Below.new _ _).drew) (by first | exact hB2.drew | exact hBE) (by omega) (by omega)).mono ?_; rintro e Wa ⟨va, rfl, va0, va1, sa, ga⟩; have ka := names_grown (by first | exact hcD | exact hcE) (by first | exact hz2d | (rw [hzE]; omega)) hgb ga; have hba := below_src (by first | exact hB2.drew | exact hBE) HB0 ga; have hza : gn < Wa.heap.size := (by have h := ga.size; first | exact Nat.lt_of_lt_of_le hz2d h | (rw [hzE] at h; omega)); (first | (have hza2 : W2.heap.size < Wa.heap.size := (by have h := ga.size; rw [hzE] at h; omega); have hla : ∀ j (h : j < [12, 30, 61].length), Wa.cell? ⟨W2.heap.size, j, none⟩ = some (.int .i64 ([12, 30, 61][j]'h)) := (fun j hj => by rw [grown_cell ga (p := ⟨W2.heap.size, j, none⟩) (by show W2.heap.size < _; rw [hzE]; omega) (fun e => by have h : W2.heap.size = b := Option.some.inj e; omega)]; exact hLE j hj)) | skip); have gA : W2.grownBy Wa (some b) := (by first | exact ⟨ga.os, ga.tape, ga.output, ga.size, ga.block⟩ | exact grown_trans (grown_of_below ((Below.new W2 _).drew) _) ga); obtain ⟨m, rfl⟩ := Int.eq_ofNat_of_zero_le va0; have hm : m < namesL.length := (by simp [namesL]; omega); have hm4 : (m : Int) < 4 := (by omega))
      | (go_at_call 84; refine (l01Pick_any w0 Wa b W2.heap.size [12, 30, 61] sa hba hza2 (by omega) (by decide) (by decide) hla).mono ?_; rintro e Wb ⟨pb, rfl, hpb, sb, gb⟩; have hpb2 : 1 ≤ pb ∧ pb ≤ 61 := (by simp at hpb; omega); clear hpb; have gB : Wa.grownBy Wb (some b) := gb; have kb := names_grown ka hza hgb gb; have hbb := below_src hba HB0 gb; have hzb : gn < Wb.heap.size := (by have h := gb.size; omega); have CC := Lib.hid (l01Next_i w0 Wb b pb sb hbb hpb2.1 (by omega)))
      | (go_at_call 84; refine (l01Pick_any w0 _ b _ [12, 30, 61] (sa.below (Below.new _ _)) (hba.alloc hba.size _) (by simp) (by have := sa.lt; omega) (by decide) (by decide) (cells_new_ints Wa [12, 30, 61] _)).mono ?_; rintro e Wb ⟨pb, rfl, hpb, sb, gb⟩; have hpb2 : 1 ≤ pb ∧ pb ≤ 61 := (by simp at hpb; omega); clear hpb; have gB : Wa.grownBy Wb (some b) := grown_trans (grown_of_below (Below.new Wa _) _) gb; have kb := names_grown (names_alloc (o := .cells ([12, 30, 61].map (Value.int .i64)).toArray 2) ka hza) (by rw [World.size_alloc]; omega) hgb gb; have hbb := below_src (hba.alloc hba.size _) HB0 gb; have hzb : gn < Wb.heap.size := (by have h := gb.size; rw [World.size_alloc] at h; omega); have CC := Lib.hid (l01Next_i w0 Wb b pb sb hbb hpb2.1 (by omega)))
      | (go_at_call 161; refine CD.out.mono ?_; rintro e Wd ⟨rfl, bd⟩; have kd : ∀ j (h : j < namesL.length), Wd.cell? ⟨gn, j, none⟩ = some (.string (namesL[j]'h)) := fun j hj => (bd.cell (p := ⟨gn, j, none⟩) hzc).trans (kc j hj)))
    all_goals
      have hq60 : (bt ((namedS m q).take q)).size ≤ 60 := by rw [bt_size, List.length_take]; omega
      have gE := grown_trans (grown_trans (grown_trans (grown_trans (grown_trans g1 g2) gA) gB) gc) (grown_of_below bd (some b))
      have sE := sc.below bd
      go_wp2
      go_ret
      exact ⟨_, rfl, hq60, sE, gE⟩
  · by_cases h1 : v = 1
    · subst h1
      have CK := Lib.hid (l01Next_i w0 W1 b 6 s1 hB1 (by omega) (by omega))
      go_wp2_with fail
      refine CK.out.mono ?_
      rintro e W2 ⟨k, rfl, k0, k1, s2, g2⟩
      have hB2 := below_src hB1 HB0 g2
      have hbl2 := s2.lt
      go_wp2_with fail
      refine (l01Pick_any w0 _ b _ [2, 2, 3] (s2.below (Below.new _ _)) (hB2.alloc hB2.size _) (by simp) (by omega) (by decide) (by decide) (cells_new_ints W2 [2, 2, 3] _)).mono ?_
      rintro e W3 ⟨z, rfl, hz, s3, g3⟩
      have hz2 : 1 ≤ z ∧ z ≤ 5 := by simp at hz; omega
      have hB3 := below_src (hB2.alloc hB2.size _) HB0 g3
      have G3 := grown_trans (grown_trans g1 g2) (grown_trans (grown_of_below (Below.new W2 _) (some b)) g3)
      clear hz
      go_wp2_with fail
      refine (l01DrawOf_any w0 _ b (1 + k) z s3 hB3 (by omega) (by omega) hz2.1 hz2.2).mono ?_
      rintro e W4 ⟨u, rfl, hu, s4, g4⟩
      have hB4 := below_src hB3 HB0 g4
      have G4 := grown_trans G3 g4
      have CL := Lib.hid (l01Next_i w0 W4 b 4 s4 hB4 (by omega) (by omega))
      go_wp2_with fail
      refine CL.out.mono ?_
      rintro e W5 ⟨q, rfl, q0, q1, s5, g5⟩
      have hB5 := below_src hB4 HB0 g5
      have G5 := grown_trans G4 g5
      have hus : u.size ≤ 6 := by omega
      have hu1 : 1 ≤ u.size := by omega
      clear hu
      go_wp2_with fail
      go_loopg [7, 8] 4 (fun g s7 s8 wr => ∃ (t : ByteArray) (j : Int), 0 ≤ j ∧ j ≤ g ∧ t.size + j.toNat * 6 ≤ 24 ∧ s7 = .string t ∧ s8 = .int .i64 j ∧ wr = W5)
      case atStart => exact ⟨⟨#[]⟩, 1 + q, by omega, by omega, by show 0 + _ ≤ 24; omega, rfl, rfl, rfl⟩
      case round =>
        obtain ⟨t, j, j0, jg, ht, rfl, rfl, rfl⟩ := hrel
        by_cases hp : 0 < j
        · obtain ⟨g, rfl⟩ : ∃ g, gk = g + 1 := ⟨gk - 1, by omega⟩
          have hsum : ∀ W, (Op.stringOp .add t u).run Try.prog W = .ok (.string (t ++ u)) W := fun W => run_string_add_sum W _ _ (by omega)
          have y1 : (t ++ u).size = t.size + u.size := by rw [ByteArray.size_append]
          generalize t ++ u = o1 at *
          go_wp2
          go_roundg g
          case measure => omega
          case rel => exact ⟨o1, j - 1, by omega, by omega, by omega, rfl, by go_num, by first | rfl | trivial⟩
        · have CM := Lib.hid (l01Next_i w0 wr b u.size s5 hB5 (by omega) (by omega))
          have hts : t.size ≤ 24 := by omega
          go_wp2_with fail
          refine CM.out.mono ?_
          rintro e W6 ⟨p, rfl, p0, p1, s6, g6⟩
          obtain ⟨n, rfl⟩ := Int.eq_ofNat_of_zero_le p0
          have hsl1 := fun W => slice_to u (n : Int) n rfl (by omega) W
          have z1 : (u.extract 0 n).size = n := by simp; omega
          generalize u.extract 0 n = u1 at *
          have hsum : ∀ W, (Op.stringOp .add t u1).run Try.prog W = .ok (.string (t ++ u1)) W := fun W => run_string_add_sum W _ _ (by omega)
          have y1 : (t ++ u1).size = t.size + u1.size := by rw [ByteArray.size_append]
          generalize t ++ u1 = o1 at *
          have G6 := grown_trans G5 g6
          go_wp2_with fail
          go_ret
          exact ⟨o1, rfl, by omega, s6, G6⟩
    · by_cases h2 : v = 2
      · subst h2
        have CK := Lib.hid (l01Next_i w0 W1 b 12 s1 hB1 (by omega) (by omega))
        go_wp2_with fail
        refine CK.out.mono ?_
        rintro e W2 ⟨k, rfl, k0, k1, s2, g2⟩
        have hB2 := below_src hB1 HB0 g2
        have hbl2 := s2.lt
        go_wp2_with fail
        refine (l01Pick_any w0 _ b _ [2, 2, 3] (s2.below (Below.new _ _)) (hB2.alloc hB2.size _) (by simp) (by omega) (by decide) (by decide) (cells_new_ints W2 [2, 2, 3] _)).mono ?_
        rintro e W3 ⟨z, rfl, hz, s3, g3⟩
        have hz2 : 1 ≤ z ∧ z ≤ 5 := by simp at hz; omega
        have hB3 := below_src (hB2.alloc hB2.size _) HB0 g3
        have G3 := grown_trans (grown_trans g1 g2) (grown_trans (grown_of_below (Below.new W2 _) (some b)) g3)
        clear hz
        go_wp2_with fail
        refine (l01DrawOf_any w0 _ b k z s3 hB3 (by omega) k0 hz2.1 hz2.2).mono ?_
        rintro e W4 ⟨u, rfl, hu, s4, g4⟩
        have hB4 := below_src hB3 HB0 g4
        have G4 := grown_trans G3 g4
        have hus : u.size ≤ 11 := by omega
        clear hu
        have CL := Lib.hid (l01Next_i w0 W4 b 2 s4 hB4 (by omega) (by omega))
        go_wp2_with fail
        refine CL.out.mono ?_
        rintro e W5 ⟨q, rfl, q0, q1, s5, g5⟩
        have hB5 := below_src hB4 HB0 g5
        have G5 := grown_trans G4 g5
        go_wp2_with fail
        refine (l01DrawOf_any w0 _ b q 2 s5 hB5 (by omega) q0 (by omega) (by omega)).mono ?_
        rintro e W6 ⟨m, rfl, hm, s6, g6⟩
        have G6 := grown_trans G5 g6
        have hms : m.size ≤ 1 := by omega
        clear hm
        have hsum : ∀ W, (Op.stringOp .add u m).run Try.prog W = .ok (.string (u ++ m)) W := fun W => run_string_add_sum W _ _ (by omega)
        have y1 : (u ++ m).size = u.size + m.size := by rw [ByteArray.size_append]
        generalize u ++ m = o1 at *
        go_wp2_with fail
        refine (l01Reversed_any u _ (by omega)).mono ?_
        rintro e W7 ⟨rfl, b7⟩
        have hrv : (rev u).size = u.size := rev_size u
        generalize rev u = r at *
        have hsum2 : ∀ W, (Op.stringOp .add o1 r).run Try.prog W = .ok (.string (o1 ++ r)) W := fun W => run_string_add_sum W _ _ (by omega)
        have y2 : (o1 ++ r).size = o1.size + r.size := by rw [ByteArray.size_append]
        generalize o1 ++ r = o2 at *
        have s7 := s6.below b7
        have G7 := grown_trans G6 (grown_of_below b7 (some b))
        go_wp2_with fail
        go_ret
        exact ⟨o2, rfl, by omega, s7, G7⟩
      · by_cases h3 : v = 3
        · subst h3
          go_wp2_with fail
          refine (l01Pick_any w0 _ b _ [20, 40, 61] (s1.below (Below.new _ _)) (hB1.alloc hB1.size _) (by simp) (by omega) (by decide) (by decide) (cells_new_ints W1 [20, 40, 61] _)).mono ?_
          rintro e W2 ⟨k, rfl, hk, s2, g2⟩
          have hk2 : 1 ≤ k ∧ k ≤ 61 := by simp at hk; omega
          have hB2 := below_src (hB1.alloc hB1.size _) HB0 g2
          have G2 := grown_trans g1 (grown_trans (grown_of_below (Below.new W1 _) (some b)) g2)
          clear hk
          have CK := Lib.hid (l01Next_i w0 W2 b k s2 hB2 hk2.1 (by omega))
          go_wp2_with fail
          refine CK.out.mono ?_
          rintro e W3 ⟨q, rfl, q0, q1, s3, g3⟩
          have hB3 := below_src hB2 HB0 g3
          have hbl3 := s3.lt
          have G3 := grown_trans G2 g3
          go_wp2_with fail
          refine (l01Pick_any w0 _ b _ [1, 2, 2, 3, 3, 4, 5] (s3.below (Below.new _ _)) (hB3.alloc hB3.size _) (by simp) (by omega) (by decide) (by decide) (cells_new_ints W3 [1, 2, 2, 3, 3, 4, 5] _)).mono ?_
          rintro e W4 ⟨z, rfl, hz, s4, g4⟩
          have hz2 : 1 ≤ z ∧ z ≤ 5 := by simp at hz; omega
          have hB4 := below_src (hB3.alloc hB3.size _) HB0 g4
          have G4 := grown_trans G3 (grown_trans (grown_of_below (Below.new W3 _) (some b)) g4)
          clear hz
          go_wp2_with fail
          refine (l01DrawOf_any w0 _ b q z s4 hB4 (by omega) q0 hz2.1 hz2.2).mono ?_
          rintro e W5 ⟨u, rfl, hu, s5, g5⟩
          go_wp2_with fail
          go_ret
          exact ⟨u, rfl, by omega, s5, grown_trans G4 g5⟩
        · go_wp2_with fail
          refine (l01Small_any w0 W1 b s1 hB1).mono ?_
          rintro e W2 ⟨u, rfl, hu, s2, g2⟩
          go_wp2_with fail
          go_ret
          exact ⟨u, rfl, by omega, s2, grown_trans g1 g2⟩

set_option maxRecDepth 100000 in
theorem l01Spoil_any (w0 W : World) (b : Nat) (hS : Src w0 W b) (hB : Below w0.heap.size w0 W) :
    Calls Try.prog 108 #[.pointer (some ⟨b, 0, none⟩)] W (DrawnT 200 w0 W b) := by
  have HB0 := hS.ge
  have CN := Lib.hid (l01Draw_any w0 W b hS hB)
  clear hS
  go_enter Try.func108, Try.ntmps108
  go_wp2_with fail
  refine CN.out.mono ?_
  rintro e W1 ⟨x, rfl, hx, s1, g1⟩
  have hB1 := below_src hB HB0 g1
  have CB := Lib.hid (l01Bad_any w0 W1 b x s1 hB1 (by omega))
  go_wp2_with fail
  refine CB.out.mono ?_
  rintro e W2 ⟨y, rfl, hy, s2, g2⟩
  go_wp2_with fail
  go_ret
  exact ⟨y, rfl, by omega, s2, grown_trans g1 g2⟩

end Go.Proofs.Ytinanajagkilaaa
