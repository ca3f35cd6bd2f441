/- The model's draws of letters' numbers and of a renaming. -/
import Derived.Test.YtlaefpmfbnldfabDrawTwo
import Derived.Test.YtlaefpmfbnldfabInts
namespace Go.Proofs.Ytlaefpmfbnldfab
set_option linter.unusedVariables false
set_option linter.unusedSimpArgs false
open Go.RowKit

theorem OwnI.src {W W' : World} {B b : Nat} {v : Value} {L : List Int} (h : OwnI W B v L) (hb : b < B) (g : W.grownBy W' (some b)) : OwnI W' B v L := by
  refine World.ownsRow.kept h g ?_
  cases hv : v.ownBlock with
  | none => exact .inl rfl
  | some k =>
    refine .inr fun e => ?_
    have h1 := (h.lt k hv).1
    have h2 : k = b := Option.some.inj e
    omega
theorem Src.grown {w0 W W' : World} {b : Nat} {r : Option Nat} (h : Src w0 W b) (g : W.grownBy W' r) (hne : some b ≠ r) : Src w0 W' b := by
  have hl := h.lt
  obtain ⟨a, len, cap, zs, p, q, hb, s⟩ := h
  exact ⟨a, len, cap, zs, p, q, by rw [g.block b hl hne]; exact hb, s⟩
theorem OwnI.ne {W : World} {B b : Nat} {v : Value} {L : List Int} (h : OwnI W B v L) (hb : b < B) : some b ≠ v.ownBlock := fun e => by
  have := (h.lt b e.symm).1
  omega
theorem OwnI.set {W : World} {B g cap : Nat} {L : List Int} (h : OwnI W B (.slice (some ⟨g, 0, none⟩) L.length cap) L) (k : Nat) (z : Int) : OwnI (W.setCell ⟨g, k, none⟩ (.int .i64 z)) B (.slice (some ⟨g, 0, none⟩) L.length cap) (L.set k z) := by
  unfold OwnI at h ⊢
  rw [List.length_set, List.map_set]
  exact (World.ownsRow.stored h k (.int .i64 z)).1
theorem Src.set {w0 W : World} {b g k : Nat} (h : Src w0 W b) (hne : g ≠ b) (z : Value) : Src w0 (W.setCell ⟨g, k, none⟩ z) b := by
  obtain ⟨a, len, cap, zs, p, q, hb, s⟩ := h
  refine ⟨a, len, cap, zs, p, q, ?_, s⟩
  show (W.heap.modify g _)[b]? = _
  rw [Array.getElem?_modify, if_neg hne]
  exact hb

/-- What a draw of a list of numbers comes to. -/
def SomeL (w : World) (e : Ending) (w' : World) : Prop := ∃ (v : Value) (L : List Int), e = .returned v ∧ OwnI w' w.heap.size v L ∧ L.length ≤ 100 ∧ Below w.heap.size w w'
/-- What a draw of a text and of a list of numbers comes to. -/
def TextL (w : World) (e : Ending) (w' : World) : Prop := ∃ (x : ByteArray) (v : Value) (L : List Int), e = .returned (.tuple #[.string x, v]) ∧ x.size ≤ 1000 ∧ OwnI w' w.heap.size v L ∧ L.length ≤ 100 ∧ Below w.heap.size w w'

set_option maxRecDepth 100000 in
set_option maxHeartbeats 4000000 in
theorem DrawRenameLetters_any (a : Option Addr) (len cap : Nat) (zs : List Int) (w : World) (h : IsRow .u8 w a len cap zs) (hl : len ≤ 1048576) :
    Calls Try.prog 65 #[.slice a len cap] w (TextL w) := by
  obtain ⟨i0, hi, hz0, hz1, hz2⟩ := info_parts infoI64
  have CF := Lib.hid (l01From_any a len cap zs w h hl)
  clear h
  go_enter Try.func65, Try.ntmps65
  go_wp2_with fail
  refine CF.out.mono ?_
  rintro e W0 ⟨rfl, s0, hB0⟩
  have HB0 := s0.ge
  have CN := Lib.hid (l01Spoil_any w W0 w.heap.size s0 hB0)
  clear CF
  go_wp2_with fail
  refine CN.out.mono ?_
  rintro e W1 ⟨x, rfl, hx, s1, g1⟩
  have hB1 := below_src hB0 HB0 g1
  have hl1 := s1.lt
  clear CN s0 hB0 g1
  go_wp2_with fail
  go_loopw [6, 7] (fun v i wr => ∃ (k : Nat) (L : List Int), k ≤ 5 ∧ i = .int .i64 (k : Int) ∧ L.length = k ∧ OwnI wr (w.heap.size + 1) v L ∧ Src w wr w.heap.size ∧ Below w.heap.size w wr) (fun _ i _ => 5 - (intOf i).toNat)
  case atStart =>
    exact ⟨0, [], by omega, rfl, rfl, OwnI.lit0 _ (by omega), s1.below (Below.new _ _), hB1.alloc hB1.size _⟩
  case round =>
    obtain ⟨k, L, hk, rfl, hL, hown, hs, hB⟩ := hrel
    clear s1 hB1 hl1
    by_cases hp : k < 5
    · have hk5 : (k : Int) < 5 := by omega
      have CL := Lib.hid (l01Next_i w wr w.heap.size 5 hs hB (by omega) (by omega))
      have HO := Lib.hid hown
      clear hown hs
      go_wp2_with fail
      refine CL.out.mono ?_
      rintro e W2 ⟨z, rfl, z0, z1, s2, g2⟩
      have hown2 := HO.out.src (by omega) g2
      have hB2 := below_src hB HB0 g2
      have hbz2 := s2.lt
      clear CL HO g2 hB
      go_wp2_with (at_builtin; refine wpList_append_own _ rfl _ _ 30 rfl (w.heap.size + 1) 2 i0 (.int .i64 0) 1 8 Try.underlying30 hi hz0 hz1 hz2 rfl (by decide) _ _ _ rfl (hown2.alloc _) ⟨_, 0, none⟩ 1 1 [.int .i64 z] rfl rfl (cell_new _ _ _) (by intro u hu; simp at hu; subst hu; rfl) (by unfold maxLen; omega) (by omega) (by simp; omega) ?_; intro v' w3 hown' hgrow _)
      have hne := hown2.ne (b := w.heap.size) (by omega)
      have s3 := (s2.below (Below.new _ _)).grown hgrow hne
      have hB3 := (hB2.alloc hB2.size _).grown hgrow (by simp; omega) (fun q hq => Nat.le_of_succ_le (hown2.lt q hq).1)
      have hown3 : OwnI w3 (w.heap.size + 1) v' (L ++ [z]) := by unfold OwnI; rw [List.length_append, ← map_snoc]; exact hown'
      go_roundw
      case rel => exact ⟨k + 1, L ++ [z], by omega, by go_num, by simp [hL], hown3, s3, hB3⟩
      case measure => simp [intOf]; omega
    · have hk5 : 5 ≤ L.length := by omega
      have hk7 : L.length ≤ 5 := by omega
      have hk6 : ¬ (k : Int) < 5 := by omega
      have CQ := Lib.hid (l01Next_i w wr w.heap.size 16 hs hB (by omega) (by omega))
      have HO := Lib.hid hown
      clear hown hs hL
      go_wp2_with fail
      refine CQ.out.mono ?_
      rintro e W2 ⟨q, rfl, q0, q1, s2, g2⟩
      have hown2 := HO.out.src (by omega) g2
      have hB2 := below_src hB HB0 g2
      have hbz2 := s2.lt
      clear CQ HO g2 hB
      by_cases hq0 : q = 0
      · subst hq0
        go_wp2_with (at_builtin; refine wpList_append_own _ rfl _ _ 30 rfl (w.heap.size + 1) 2 i0 (.int .i64 0) 1 8 Try.underlying30 hi hz0 hz1 hz2 rfl (by decide) _ _ _ rfl (hown2.alloc _) ⟨_, 0, none⟩ 1 1 [.int .i64 0] rfl rfl (cell_new _ _ _) (by intro u hu; simp at hu; subst hu; rfl) (by unfold maxLen; omega) (by omega) (by simp; omega) ?_; intro v' w3 hown' hgrow _)
        have hB3 := (hB2.alloc hB2.size _).grown hgrow (by simp; omega) (fun q hq => Nat.le_of_succ_le (hown2.lt q hq).1)
        have hown3 : OwnI w3 (w.heap.size + 1) v' (L ++ [0]) := by unfold OwnI; rw [List.length_append, ← map_snoc]; exact hown'
        go_wp2
        go_ret2
        exact ⟨x, v', L ++ [0], rfl, by omega, hown3.base (by omega), by simp; omega, hB3⟩
      · by_cases hq1 : q = 1
        · subst hq1
          obtain ⟨gv, cv, rfl, hgB, hgl, hcv, _, cell, fz⟩ := hown2.row (by omega)
          have CM := Lib.hid (l01Next_i w W2 w.heap.size 5 s2 hB2 (by omega) (by omega))
          have HO := Lib.hid hown2
          clear hown2 cell fz
          go_wp2_with fail
          refine CM.out.mono ?_
          rintro e W3 ⟨m0, rfl, m1, m2, s3, g3⟩
          have hown3 := HO.out.src (by omega) g3
          have hB3 := below_src hB2 HB0 g3
          have hbz3 := s3.lt
          obtain ⟨m, rfl⟩ := Int.eq_ofNat_of_zero_le m1
          have HO := Lib.hid hown3
          clear hown3 CM g3 s2
          go_wp2_with fail
          refine (l01Pick_any w _ w.heap.size _ [-1, 5] (s3.below (Below.new _ _)) (hB3.alloc hB3.size _) (by simp) (by omega) (by decide) (by decide) (cells_new_ints W3 [-1, 5] _)).mono ?_
          rintro e W4 ⟨z, rfl, hz, s4, g4⟩
          have hz2 : -1 ≤ z ∧ z ≤ 5 := by simp at hz; omega
          have hB4 := below_src (hB3.alloc hB3.size _) HB0 g4
          have hown4 := (HO.out.below (Below.new _ _)).src (by omega) g4
          have hm5 : m < 5 := by omega
          have hmL : m < L.length := by omega
          have k1 : W4.cell? ⟨gv, m, none⟩ = some (.int .i64 (L[m]'hmL)) := by rw [World.ownsRow.cellAt hown4 m (by simpa using hmL)]; simp [hmL]
          have k2 : W4.frozen? ⟨gv, m, none⟩ = false := World.ownsRow.frozenAt hown4 m
          have hfin := hown4.set m z
          have HF := Lib.hid hfin
          have hmc : m < cv := by omega
          have hB5 := hB4.setCell (p := ⟨gv, m, none⟩) (Nat.le_of_succ_le hgB) (.int .i64 z)
          generalize L[m]'hmL = y at k1
          clear hz HO hown4 hfin g4
          go_wp2_with fail
          go_ret2
          exact ⟨x, _, L.set m z, rfl, by omega, HF.out.base (Nat.le_succ _), by simp; omega, hB5⟩
        · go_wp2_with fail
          go_ret2
          exact ⟨x, _, L, rfl, by omega, hown2.base (by omega), by omega, hB2⟩

end Go.Proofs.Ytlaefpmfbnldfab
