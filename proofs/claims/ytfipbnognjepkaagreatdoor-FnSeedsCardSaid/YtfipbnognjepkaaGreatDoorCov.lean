/- The places that a word covers: the program. -/
import Derived.Test.YtfipbnognjepkaaGreatDoorFacIter
import Derived.Test.YtfipbnognjepkaaGreatDoorCovPlain
import Derived.Test.YtfipbnognjepkaaGreatDoorDoor
import Derived.Laws.Bits64b
namespace Go.Proofs.YtfipbnognjepkaaGreatDoor
set_option linter.unusedVariables false
set_option linter.unusedSimpArgs false
open Go.RowKit Go.Shelf
attribute [local go_sem] Oper.semAt_some

theorem grown_drew {W W' : World} {r : Option Nat} (h : W.grownBy W' r) : W.grownBy W'.drew r := ⟨h.os, h.tape, h.output, h.size, h.block⟩
theorem mskF_wrap {i m : Nat} (h : i + m ≤ 60) : IntKind.u64.wrap (IntKind.u64.wrap (IntKind.u64.wrap (2 ^ m) - 1) * 2 ^ i) = ((mskF i m : Nat) : Int) := by
  have h1 := mskF_lt h
  have h2 : (2 : Nat) ^ m ≤ 2 ^ 60 := Nat.pow_le_pow_right (by omega) (by omega)
  have h3 : 0 < (2 : Nat) ^ m := Nat.pow_pos (by omega)
  have h4 : ((2 : Int) ^ m) = ((2 ^ m : Nat) : Int) := by push_cast; rfl
  have h5 : ((2 : Int) ^ i) = ((2 ^ i : Nat) : Int) := by push_cast; rfl
  unfold mskF at h1 ⊢
  rw [h4, h5]
  generalize (2 : Nat) ^ m = a at *
  rw [IntKind.wrap_u64, IntKind.wrap_u64, IntKind.wrap_u64]
  have e1 : ((a : Int) % 18446744073709551616 - 1) % 18446744073709551616 = ((a - 1 : Nat) : Int) := by omega
  rw [e1, ← Int.natCast_mul, Nat.mul_comm]
  generalize 2 ^ i * (a - 1) = b at *
  omega

set_option maxHeartbeats 1000000 in
theorem placesFrom_any (i m : Nat) (w : World) (h : i + m ≤ 60) :
    Calls Tryz.prog 101 #[.int .i64 (i : Int), .int .i64 (m : Int)] w fun e w' => e = .returned (.int .u64 ((mskF i m : Nat) : Int)) ∧ w' = w := by
  have hi : i < 64 := by omega
  have hm : m < 64 := by omega
  go_enter Tryz.func101, Tryz.ntmps101
  go_wp2
  rw [mskF_wrap h]
  go_ret
  exact ⟨rfl, rfl⟩

set_option maxRecDepth 100000 in
set_option maxHeartbeats 2000000 in
theorem inner_covered_in (x u : ByteArray) (w : World) (hx : x.size ≤ 60) (hu : u.size ≤ 60) :
    CallsIn Fence.wide 4 Tryz.prog 94 #[.string u, .string x] w fun e w' => e = .returned (.int .u64 ((msk x u : Nat) : Int)) ∧ Below w.heap.size w w' := by
  have hmo : Tryz.prog.follows .mixedOrders = true := by kernel_rfl
  refine callsIn_of_wp_marks Tryz.func94 rfl trivial ?_ rfl
  simp only [Tryz.ntmps94, List.size_toArray, List.length_cons, List.length_nil, Nat.reduceAdd, Nat.reduceSub, Array.replicate_succ, Array.replicate_zero, List.push_toArray, List.append_toArray, List.nil_append, List.cons_append]
  gi_wp2_with (refine ⟨trivial, ?_⟩; gi_at_call 144; refine (factorsIn_in Fence.wide _ trivial rfl _ _ _).mono ?_; rintro e w2 ⟨rfl, rfl⟩)
  obtain ⟨W0, hW0⟩ : ∃ W0 : World, W0 = (((w.alloc (.cells #[.string u] 100)).alloc (.cells #[.int .u64 0] 106)).alloc (.cells #[.string x] 9)).alloc (.cells #[.int .i64 (u.size : Int)] 2) := ⟨_, rfl⟩
  rw [← hW0]
  have hs0 : W0.heap.size = w.heap.size + 4 := by rw [hW0]; simp
  have hB0 : Below w.heap.size w W0 := by rw [hW0]; exact (((Below.new _ _).alloc (by simp) _).alloc (by simp; omega) _).alloc (by simp; omega) _
  have r3 : Boxed W0 w.heap.size 100 (.string u) := by rw [hW0]; exact (((Boxed.new w _ _).alloc _).alloc _).alloc _
  have p0 : Boxed W0 (w.heap.size + 1) 106 (.int .u64 0) := by
    have := Boxed.new (w.alloc (.cells #[.string u] 100)) 106 (.int .u64 0)
    rw [World.size_alloc] at this
    rw [hW0]; exact (this.alloc _).alloc _
  have q2 : Boxed W0 (w.heap.size + 1 + 1) 9 (.string x) := by
    have := Boxed.new ((w.alloc (.cells #[.string u] 100)).alloc (.cells #[.int .u64 0] 106)) 9 (.string x)
    simp only [World.size_alloc] at this
    rw [hW0]; exact this.alloc _
  have q1 : Boxed W0 (w.heap.size + 1 + 1 + 1) 2 (.int .i64 (u.size : Int)) := by
    have := Boxed.new (((w.alloc (.cells #[.string u] 100)).alloc (.cells #[.int .u64 0] 106)).alloc (.cells #[.string x] 9)) 2 (.int .i64 (u.size : Int))
    simp only [World.size_alloc] at this
    rw [hW0]; exact this
  clear hW0
  refine wpIn_rangeFunc_ownG rfl (by decide) (gf := 167) (lb := #[.pointer (some ⟨w.heap.size + 1 + 1 + 1, 0, none⟩), .pointer (some ⟨w.heap.size + 1 + 1, 0, none⟩)]) rfl trivial (enters_of Tryz.func167 (by kernel_rfl) rfl)
    (factorsF_stops Fence.wide 3 trivial rfl (by decide) (w.heap.size + 1 + 1 + 1) (w.heap.size + 1 + 1) w.heap.size x u.size hx hu W0 q1 q2) kpF_t (kpF_b (by omega) (by omega) (by omega)) (Below.refl _ _) (fun _ => rfl)
    (fun pre W => ((Boxed W (w.heap.size + 1) 106 (.int .u64 ((mskOf x u (pre.map Fin.val) : Nat) : Int)) ∧ Boxed W w.heap.size 100 (.string u)) ∧ (Boxed W (w.heap.size + 1 + 1 + 1) 2 (.int .i64 (u.size : Int)) ∧ Boxed W (w.heap.size + 1 + 1) 9 (.string x))) ∧ Below w.heap.size w W)
    (fun _ _ _ => False)
    (OwnFrom.and (OwnFrom.and (OwnFrom.and (Own.from (boxed_own _ _ (fun pre : List (Fin (x.size + 1 - u.size)) => .int .u64 ((mskOf x u (pre.map Fin.val) : Nat) : Int))) _) (Own.from (boxed_own _ _ _) _)) (OwnFrom.and (Own.from (boxed_own _ _ _) _) (Own.from (boxed_own _ _ _) _))) (ownFrom_below (Nat.le_refl _) (by omega)))
    (fun _ _ _ _ _ hs _ _ => hs)
    ⟨⟨⟨p0, r3⟩, q1, q2⟩, hB0⟩
    (fun i => { tmps := #[.string u, .string x, .pointer (some ⟨w.heap.size, 0, none⟩), undef, .int .u64 0, .pointer (some ⟨w.heap.size + 1, 0, none⟩), .int .i64 (i.val : Int), .string (x.extract i.val (i.val + u.size)), .string x, .string u, .int .i64 (u.size : Int), .func (.func 167) #[] #[.pointer (some ⟨w.heap.size + 1 + 1 + 1, 0, none⟩), .pointer (some ⟨w.heap.size + 1 + 1, 0, none⟩)], .int .i64 (i.val : Int), .string (x.extract i.val (i.val + u.size)), undef, undef, undef, undef, undef, undef, undef, undef, undef, undef], defers := [] }) ?assign ?body ?done ?stop
  case assign =>
    intro l i W K hK
    gi_wp2
    exact hK
  case body =>
    rintro l pre i W ⟨⟨⟨hv, r3⟩, r1, r2⟩, hB⟩ hlt
    have hc := hv.cell
    have hfz := hv.frozen
    have c3 := r3.cell
    have hvl := hv.lt
    have hml : mskOf x u (pre.map Fin.val) < 18446744073709551616 := by
      have h1 := mskOf_le (x := x) (u := u) (pre := pre.map Fin.val) (by intro j hj; obtain ⟨k, _, rfl⟩ := List.mem_map.1 hj; exact k.2)
      have h2 : 2 ^ x.size ≤ 2 ^ 60 := Nat.pow_le_pow_right (by omega) hx
      omega
    have hi2 := i.2
    have him : i.val + u.size ≤ 60 := by omega
    by_cases he : x.extract i.val (i.val + u.size) = u
    · have hsn := mskOf_hit x u (pre.map Fin.val) he
      have hfl : mskF i.val u.size < 18446744073709551616 := by
        have := mskF_lt him
        omega
      have hor := bits_or_u64_nat _ _ hml hfl
      have hq := teq_yes he
      gi_wp2
      gi_region_with_o (refine ⟨trivial, ?_⟩; gi_at_call 101; refine (CallsIn.inRound l (callsIn_wide.2 (placesFrom_any _ _ _ him))).mono ?_; rintro e w2 ⟨rfl, rfl⟩)
      all_goals gi_wp2
      all_goals (
        have g0 := grownBy_setCell' W (w.heap.size + 1) (.int .u64 ((mskOf x u (pre.map Fin.val) ||| mskF i.val u.size : Nat) : Int))
        have g1 : W.grownBy (W.setCell ⟨w.heap.size + 1, 0, none⟩ (.int .u64 ((mskOf x u (pre.map Fin.val) ||| mskF i.val u.size : Nat) : Int))).drew (some (w.heap.size + 1)) := grown_drew g0
        refine ⟨KeepsFrom.of_grownBy g1 (fun j e => by cases e; omega), ⟨(Below.refl _ W).grown g1 hB.size (fun k e => by cases e; omega), g1.block _ r1.lt (fun e => by have := Option.some.inj e; omega), g1.block _ r2.lt (fun e => by have := Option.some.inj e; omega)⟩, ⟨⟨?_, r3.kept g1 (fun e => by have := Option.some.inj e; omega)⟩, r1.kept g1 (fun e => by have := Option.some.inj e; omega), r2.kept g1 (fun e => by have := Option.some.inj e; omega)⟩, hB.grown g1 hB.size (fun k e => by cases e; omega)⟩
        rw [List.map_append]
        show Boxed _ _ _ (.int .u64 ((mskOf x u (pre.map Fin.val ++ [i.val]) : Nat) : Int))
        rw [hsn]
        exact hv.set (.int .u64 ((mskOf x u (pre.map Fin.val) ||| mskF i.val u.size : Nat) : Int)))
    · have hsn := mskOf_miss x u (pre.map Fin.val) he
      have hq := teq_no he
      gi_wp2
      exact ⟨KeepsFrom.refl _ _, ⟨Below.refl _ _, rfl, rfl⟩, ⟨⟨by rw [List.map_append]; show Boxed _ _ _ (.int .u64 ((mskOf x u (pre.map Fin.val ++ [i.val]) : Nat) : Int)); rw [hsn]; exact hv, r3⟩, r1, r2⟩, hB⟩
  case done =>
    rintro D ys W hD hys ⟨⟨⟨hv, r3⟩, r1, r2⟩, hB⟩ hK
    have hc := hv.cell
    rw [hys] at hc
    gi_wp2
    refine ⟨by simp, .inl ⟨_, _, rfl, run_takeDeferred hK, ?_⟩⟩
    exact ⟨_, results_tmp rfl _ _ _, rfl, hB.trans (belowK_b (w := w) (Nat.le_refl _) W D _ _ (by omega) hK rfl rfl)⟩
  case stop =>
    rintro D c pre W _ _ h _
    exact h.elim

end Go.Proofs.YtfipbnognjepkaaGreatDoor
