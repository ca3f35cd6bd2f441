/- The iterator over the factors of a length: its contract. -/
import Derived.RangeFuncNested
import Derived.RangeFuncBound
import Derived.RangeFuncCalls
import Derived.RangeFuncLeaves
import Derived.RangeFuncBox
import Derived.Shelf.Abstract
import Derived.Shelf.RegionOpen
import Derived.WalkKit
import Derived.OwnWalkIn
import Derived.TacticsInMore
import Derived.LoopNIn
import Derived.LoopIn
import Derived.Maps.AppendAt
import Derived.Test.YtfipbnognjepkaaGreatDoorFactor
import Derived.Test.YtfipbnognjepkaaGreatDoorInts
namespace Go.Proofs.YtfipbnognjepkaaGreatDoor
set_option linter.unusedVariables false
set_option linter.unusedSimpArgs false
open Go.RowKit Go.Shelf
attribute [local go_sem] Oper.semAt_some

abbrev encF (x : ByteArray) (m : Nat) (i : Nat) : Array Value := #[.int .i64 (i : Int), .string (x.extract i (i + m))]
/-- What a round keeps: whatever lay below n₀; the two boxes. -/
def KpF (n₀ b1 b2 : Nat) (W W' : World) : Prop := Below n₀ W W' ∧ W'.heap[b1]? = W.heap[b1]? ∧ W'.heap[b2]? = W.heap[b2]?
theorem kpF_t {n₀ b1 b2 : Nat} {A B C : World} (h : KpF n₀ b1 b2 A B) (k : KpF n₀ b1 b2 B C) : KpF n₀ b1 b2 A C := ⟨h.1.trans k.1, k.2.1.trans h.2.1, k.2.2.trans h.2.2⟩
theorem kpF_b {n₀ b1 b2 : Nat} {w : World} (hn : n₀ ≤ w.heap.size) (h1 : b1 < w.heap.size) (h2 : b2 < w.heap.size) (W : World) (l : Nat) (o o' : Obj) (hl : w.heap.size ≤ l) (h : W.heap[l]? = some o) (hc : o.isCells = false) (hw : o.isWalk = false) : KpF n₀ b1 b2 W (W.putObj l o') := by
  have hlt := (Array.getElem?_eq_some_iff.1 h).1
  exact ⟨belowK_b hn W l o o' hl h hc hw, (grownBy_putObj' W l o').block b1 (by omega) (fun e => by cases e; omega), (grownBy_putObj' W l o').block b2 (by omega) (fun e => by cases e; omega)⟩

set_option maxRecDepth 100000 in
set_option maxHeartbeats 2000000 in
theorem factors1_at (F : Fence) (n : Nat) (hf : F.fn 167) (hro : F.round = none) (hn : 1 ≤ n) (l b1 b2 n₀ : Nat) (x : ByteArray) (m : Nat) (hx : x.size ≤ 60) (hm : m ≤ 60) (J Jx : List Nat → World → Prop)
    (hY : ∀ k W, J (List.range k) W → k < x.size + 1 - m → YieldAt F (n - 1) Tryz.prog l (encF x m k) W fun e W' =>
      (e = .returned (.bool true) ∧ J (List.range k ++ [k]) W' ∧ KpF n₀ b1 b2 W W') ∨ (e = .returned (.bool false) ∧ Jx (List.range k ++ [k]) W'))
    (W : World) (c1 : Boxed W b1 2 (.int .i64 (m : Int))) (c2 : Boxed W b2 9 (.string x)) (h0 : J [] W) :
    CallsIn F n Tryz.prog 167 #[.func (.yield l) #[] #[], .pointer (some ⟨b1, 0, none⟩), .pointer (some ⟨b2, 0, none⟩)] W fun e W' => (∃ v, e = .returned v) ∧
      ((∃ ys, ys = List.range (x.size + 1 - m) ∧ J ys W') ∨ (∃ pre : List Nat, (∃ j, j ≤ x.size + 1 - m ∧ pre = List.range j) ∧ Jx pre W')) := by
  refine callsIn_of_wp Tryz.func167 rfl hf ?_ hro
  simp only [Tryz.ntmps167, List.size_toArray, List.length_cons, List.length_nil, Nat.reduceAdd, Nat.reduceSub, Array.replicate_succ, Array.replicate_zero, List.push_toArray, List.append_toArray, List.nil_append, List.cons_append]
  gi_wp2
  gi_loopw [4] (fun i wr => ∃ k : Nat, k ≤ x.size + 1 - m ∧ i = .int .i64 k ∧ J (List.range k) wr ∧ Boxed wr b1 2 (.int .i64 (m : Int)) ∧ Boxed wr b2 9 (.string x))
    (fun i _ => x.size + 1 - (intOf i).toNat)
  case atStart => exact ⟨0, Nat.zero_le _, rfl, h0, c1, c2⟩
  case round =>
    obtain ⟨k, hk, rfl, hJs, d1, d2⟩ := hrel
    have e1 := d1.cell
    have e2 := d2.cell
    by_cases hlt : k + m ≤ x.size
    · obtain ⟨fn, tmps, assign, body, hy, hR⟩ := hY k wr hJs (by omega)
      dsimp only [encF] at hy
      have hsl := fun W => slice_mid x k m hlt W
      gi_wp2
      refine hR.mono ?_
      rintro e W3 (⟨rfl, hJ3, hk3⟩ | ⟨rfl, hJx3⟩)
      · gi_wp2
        go_roundw
        case rel => exact ⟨k + 1, by omega, by simp, by rw [List.range_succ]; exact hJ3, hk3.2.1.trans d1, hk3.2.2.trans d2⟩
        case measure => simp [intOf]; omega
      · gi_wp2
        refine bodyPost_ret (results_none rfl _ _ _) rfl ?_
        exact ⟨⟨_, rfl⟩, .inr ⟨_, ⟨k + 1, by omega, by rw [List.range_succ]⟩, hJx3⟩⟩
    · have hke : k = x.size + 1 - m := by omega
      gi_wp2
      go_end0
      exact ⟨⟨_, rfl⟩, .inl ⟨_, by rw [hke], hJs⟩⟩

theorem factors1_in (F : Fence) (n : Nat) (hf : F.fn 167) (hro : F.round = none) (hn : 1 ≤ n) (l b1 b2 n₀ : Nat) (x : ByteArray) (m : Nat) (hx : x.size ≤ 60) (hm : m ≤ 60) (J Jx : List Nat → World → Prop)
    (hY : ∀ pre i W, J pre W → pre.length < x.size + 1 - m → YieldAt F (n - 1) Tryz.prog l (encF x m i) W fun e W' =>
      (e = .returned (.bool true) ∧ J (pre ++ [i]) W' ∧ KpF n₀ b1 b2 W W') ∨ (e = .returned (.bool false) ∧ Jx (pre ++ [i]) W'))
    (W : World) (c1 : Boxed W b1 2 (.int .i64 (m : Int))) (c2 : Boxed W b2 9 (.string x)) (h0 : J [] W) :
    CallsIn F n Tryz.prog 167 #[.func (.yield l) #[] #[], .pointer (some ⟨b1, 0, none⟩), .pointer (some ⟨b2, 0, none⟩)] W fun e W' => (∃ v, e = .returned v) ∧
      ((∃ ys, ys = List.range (x.size + 1 - m) ∧ J ys W') ∨ (∃ pre : List Nat, (∃ j, j ≤ x.size + 1 - m ∧ pre = List.range j) ∧ Jx pre W')) :=
  factors1_at F n hf hro hn l b1 b2 n₀ x m hx hm J Jx (fun k W h hk => hY _ k W h (by rw [List.length_range]; exact hk)) W c1 c2 h0

set_option maxHeartbeats 1000000 in
theorem factorsIn_in (F : Fence) (n : Nat) (hf : F.fn 144) (hro : F.round = none) (x : ByteArray) (m : Int) (w : World) :
    CallsIn F n Tryz.prog 144 #[.string x, .int .i64 m] w fun e w' => e = .returned (.func (.func 167) #[] #[.pointer (some ⟨w.heap.size + 1, 0, none⟩), .pointer (some ⟨w.heap.size, 0, none⟩)]) ∧ w' = (w.alloc (.cells #[.string x] 9)).alloc (.cells #[.int .i64 m] 2) := by
  refine callsIn_of_wp Tryz.func144 rfl hf ?_ hro
  simp only [Tryz.ntmps144, List.size_toArray, List.length_cons, List.length_nil, Nat.reduceAdd, Nat.reduceSub, Array.replicate_succ, Array.replicate_zero, List.push_toArray, List.append_toArray, List.nil_append, List.cons_append]
  gi_wp2
  go_ret
  exact ⟨rfl, rfl⟩

theorem factors_stops (F : Fence) (n : Nat) (hf : F.fn 167) (hro : F.round = none) (hn : 1 ≤ n) (b1 b2 n₀ : Nat) (x : ByteArray) (m : Nat) (hx : x.size ≤ 60) (hm : m ≤ 60) (w : World) (c1 : Boxed w b1 2 (.int .i64 (m : Int))) (c2 : Boxed w b2 9 (.string x)) :
    SeqStopsK F n Tryz.prog 167 #[.pointer (some ⟨b1, 0, none⟩), .pointer (some ⟨b2, 0, none⟩)] (encF x m) (KpF n₀ b1 b2) (fun ys => ys = List.range (x.size + 1 - m)) (fun pre => ∃ j, j ≤ x.size + 1 - m ∧ pre = List.range j) (x.size + 1 - m) w := fun l J Jx W hW _ _ hY h0 =>
  factors1_in F n hf hro hn l b1 b2 n₀ x m hx hm J Jx hY W ((hW.block b1 c1.lt).trans c1) ((hW.block b2 c2.lt).trans c2) h0

/-- The same, the places as numbers below how many there are. -/
theorem factorsF_stops (F : Fence) (n : Nat) (hf : F.fn 167) (hro : F.round = none) (hn : 1 ≤ n) (b1 b2 n₀ : Nat) (x : ByteArray) (m : Nat) (hx : x.size ≤ 60) (hm : m ≤ 60) (w : World) (c1 : Boxed w b1 2 (.int .i64 (m : Int))) (c2 : Boxed w b2 9 (.string x)) :
    SeqStopsK F n Tryz.prog 167 #[.pointer (some ⟨b1, 0, none⟩), .pointer (some ⟨b2, 0, none⟩)] (fun i : Fin (x.size + 1 - m) => encF x m i.val) (KpF n₀ b1 b2) (fun ys => ys.map Fin.val = List.range (x.size + 1 - m)) (fun pre => ∃ j, j ≤ x.size + 1 - m ∧ pre.map Fin.val = List.range j) (x.size + 1 - m) w := fun l J Jx W hW _ _ hY h0 => by
  refine (factors1_at F n hf hro hn l b1 b2 n₀ x m hx hm (fun L W => ∃ L' : List (Fin (x.size + 1 - m)), L'.map Fin.val = L ∧ J L' W) (fun L W => ∃ L' : List (Fin (x.size + 1 - m)), L'.map Fin.val = L ∧ Jx L' W) (fun k W hJ hk => ?_) W ((hW.block b1 c1.lt).trans c1) ((hW.block b2 c2.lt).trans c2) ⟨[], rfl, h0⟩).mono ?_
  · obtain ⟨L', hL, hJ⟩ := hJ
    have hl : L'.length = k := by have := congrArg List.length hL; simpa using this
    obtain ⟨fn, tmps, assign, body, hy, hR⟩ := hY L' ⟨k, hk⟩ W hJ (by omega)
    refine ⟨fn, tmps, assign, body, hy, hR.mono ?_⟩
    rintro e W3 (⟨he, hJ3, hk3⟩ | ⟨he, hJ3⟩)
    · exact .inl ⟨he, ⟨_, by rw [List.map_append, hL]; rfl, hJ3⟩, hk3⟩
    · exact .inr ⟨he, ⟨_, by rw [List.map_append, hL]; rfl, hJ3⟩⟩
  · rintro e W3 ⟨hv, (⟨ys, rfl, L', hL, hJ⟩ | ⟨pre, ⟨j, hj, rfl⟩, L', hL, hJ⟩)⟩
    · exact ⟨hv, .inl ⟨L', hL, hJ⟩⟩
    · exact ⟨hv, .inr ⟨L', ⟨j, hj, hL⟩, hJ⟩⟩

/-- One more value in a boxed slice: what the walk owes. -/
theorem appended2 {W w1 : World} {n₀ nB B : Nat} {t e : TypeId} {v v' : Value} {k m : Nat} {xs ys : List Value} {tmp : Obj}
    (hv : Boxed W B t v) (hte : t ≠ e) (hrow : W.ownsRow nB e 1 v k xs) (hn : n₀ ≤ nB) (hnB : nB ≤ W.heap.size) (hB : n₀ ≤ B) (hBn : B < nB)
    (hown' : w1.ownsRow nB e 1 v' m ys) (hgrow : (W.alloc tmp).grownBy w1 v.ownBlock) :
    Boxed w1 B t v ∧ Boxed (w1.setCell ⟨B, 0, none⟩ v') B t v' ∧ (w1.setCell ⟨B, 0, none⟩ v').ownsRow nB e 1 v' m ys ∧ KeepsOthers W (w1.setCell ⟨B, 0, none⟩ v') ∧ Below n₀ W (w1.setCell ⟨B, 0, none⟩ v') ∧
      ∀ b, b < nB → b ≠ B → (w1.setCell ⟨B, 0, none⟩ v').heap[b]? = W.heap[b]? := by
  obtain ⟨h1, h2, _, h4, h5⟩ := hv.appended hte (own_base hrow hn) (Nat.le_trans hn hnB) hB (own_base hown' hn) hgrow
  refine ⟨h1, h2, hown'.kept (grownBy_setCell' w1 B v') (.inr (h1.not_row hte hown').symm), h4, h5, fun b hb hne => ?_⟩
  have hs : W.heap.size ≤ w1.heap.size := by have := hgrow.size; simp at this; omega
  rw [(grownBy_setCell' w1 B v').block b (by omega) (fun e => hne (by cases e; rfl)), hgrow.block b (by simp; omega) (fun e' => by have := (hrow.lt b e'.symm).1; omega), Below.heap_alloc W tmp b (by omega)]

end Go.Proofs.YtfipbnognjepkaaGreatDoor
