/- The iterator over the turned words: its contract. -/
import Derived.Test.YthjbdcoklgnnlabFacIter
import Derived.Test.YthjbdcoklgnnlabRoot
import Derived.Test.YthjbdcoklgnnlabTailIn
namespace Go.Proofs.Ythjbdcoklgnnlab
set_option linter.unusedVariables false
set_option linter.unusedSimpArgs false
open Go.RowKit Go.Shelf
attribute [local go_sem] Oper.semAt_some

abbrev encT (x : ByteArray) (k : Nat) : Array Value := #[.int .i64 (k : Int), .string (turned x k)]
/-- What a round keeps: whatever lay below n₀; the box. -/
def KpT (n₀ b1 : Nat) (W W' : World) : Prop := Below n₀ W W' ∧ W'.heap[b1]? = W.heap[b1]?
theorem kpT_t {n₀ b1 : Nat} {A B C : World} (h : KpT n₀ b1 A B) (k : KpT n₀ b1 B C) : KpT n₀ b1 A C := ⟨h.1.trans k.1, k.2.trans h.2⟩
theorem kpT_b {n₀ b1 : Nat} {w : World} (hn : n₀ ≤ w.heap.size) (h1 : b1 < w.heap.size) (W : World) (l : Nat) (o o' : Obj) (hl : w.heap.size ≤ l) (h : W.heap[l]? = some o) (hc : o.isCells = false) (hw : o.isWalk = false) : KpT n₀ b1 W (W.putObj l o') := by
  have hlt := (Array.getElem?_eq_some_iff.1 h).1
  exact ⟨belowK_b hn W l o o' hl h hc hw, (grownBy_putObj' W l o').block b1 (by omega) (fun e => by cases e; omega)⟩
theorem boxed_ownV {β : Type} (n B : Nat) (t : TypeId) (f : β → Value) : OwnFrom n (fun s W => Boxed W B t (f s)) := fun s W W' row hs hg hr => hs.kept hg (fun e => by
  obtain ⟨_, o, ho, hc⟩ := hr _ e.symm
  have hs' : W.heap[B]? = _ := hs
  rw [hs'] at ho
  cases ho
  cases hc)
theorem two_ways {e : Ending} {A B : Prop} (h : (e = .returned (.bool true) ∧ A) ∨ (e = .returned (.bool false) ∧ B)) : ∃ b, e = .returned (.bool b) ∧ ((b = true ∧ A) ∨ (b = false ∧ B)) := by
  rcases h with ⟨rfl, h⟩ | ⟨rfl, h⟩
  · exact ⟨true, rfl, .inl ⟨rfl, h⟩⟩
  · exact ⟨false, rfl, .inr ⟨rfl, h⟩⟩

set_option maxRecDepth 100000 in
set_option maxHeartbeats 2000000 in
theorem turned1_in (F : Fence) (n : Nat) (hf : F.fn 164) (hro : F.round = none) (hn : 1 ≤ n) (l b1 n₀ : Nat) (x : ByteArray) (hx : x.size ≤ 60) (J Jx : List Nat → World → Prop) (W : World) (hA : AbidesFrom W.heap.size J)
    (hY : ∀ pre i W, J pre W → pre.length < max 1 x.size → YieldAt F (n - 1) Try.prog l (encT x i) W fun e W' =>
      (e = .returned (.bool true) ∧ J (pre ++ [i]) W' ∧ KpT n₀ b1 W W') ∨ (e = .returned (.bool false) ∧ Jx (pre ++ [i]) W'))
    (c1 : Boxed W b1 9 (.string x)) (h0 : J [] W) :
    CallsIn F n Try.prog 164 #[.func (.yield l) #[] #[], .pointer (some ⟨b1, 0, none⟩)] W fun e W' => (∃ v, e = .returned v) ∧
      ((∃ ys, ys = List.range (max 1 x.size) ∧ J ys W') ∨ (∃ pre : List Nat, (∃ j, j ≤ max 1 x.size ∧ pre = List.range j) ∧ Jx pre W')) := by
  refine callsIn_of_wp Try.func164 rfl hf ?_ hro
  simp only [Try.ntmps164, List.size_toArray, List.length_cons, List.length_nil, Nat.reduceAdd, Nat.reduceSub, Array.replicate_succ, Array.replicate_zero, List.push_toArray, List.append_toArray, List.nil_append, List.cons_append]
  have e0 := c1.cell
  have hmo : Try.prog.follows .mixedOrders = true := by kernel_rfl
  gi_wp2
  have hmx : max 1 (x.size : Int) = ((max 1 x.size : Nat) : Int) := by omega
  rw [hmx]
  obtain ⟨N, hNe⟩ : ∃ N, max 1 x.size = N := ⟨_, rfl⟩
  have hN : N ≤ 60 := by omega
  have hNx : ∀ k, k < N → k ≤ x.size := fun k h => by omega
  rw [hNe] at hY ⊢
  have HNX := Lib.hid hNx
  have HNE := Lib.hid hNe
  clear hNx hNe hmx
  gi_loopw [7] (fun i wr => ∃ k : Nat, k ≤ N ∧ i = .int .i64 k ∧ J (List.range k) wr ∧ Boxed wr b1 9 (.string x))
    (fun i _ => N - (intOf i).toNat)
  case atStart => exact ⟨0, Nat.zero_le _, rfl, h0, c1⟩
  case round =>
    clear e0
    obtain ⟨k, hk, rfl, hJs, d1⟩ := hrel
    have e1 := d1.cell
    by_cases hlt : k < N
    · have hJd := hA _ _ _ none hJs (⟨rfl, rfl, rfl, Nat.le_refl _, fun _ _ _ => rfl⟩ : wr.grownBy wr.drew none) (fun r e => by cases e)
      obtain ⟨fn, tmps, assign, body, hy, hR⟩ := hY _ k wr.drew hJd (by rw [List.length_range]; omega)
      dsimp only [encT] at hy
      have hkx := HNX.out k hlt
      have hsl1 := fun W => slice_from x (k : Int) k rfl hkx W
      have hsl2 := fun W => slice_to x (k : Int) k rfl hkx W
      have hsum : ∀ W, (Op.stringOp .add (x.extract k x.size) (x.extract 0 k)).run Try.prog W = .ok (.string (turned x k)) W := fun W => run_string_add_sum W _ _ (by simp; omega)
      gi_wp2
      refine wpIn_region_tail 9 hro hmo (by kernel_rfl) (by kernel_rfl) ?_
      simp only [List.take_succ_cons, List.take_zero, List.drop_succ_cons, List.drop_zero]
      repeat still_step
      try refine wpStill_nil ?_
      change wpListIn _ _ _ _ _ _ _ wr.drew
      gi_wp2
      refine hR.mono ?_
      rintro e W3 (⟨rfl, hJ3, hk3⟩ | ⟨rfl, hJx3⟩)
      · gi_wp2
        go_roundw
        case rel => exact ⟨k + 1, by omega, by simp, by rw [List.range_succ]; exact hJ3, hk3.2.trans d1⟩
        case measure => simp [intOf]; omega
      · gi_wp2
        refine bodyPost_ret (results_none rfl _ _ _) rfl ?_
        exact ⟨⟨_, rfl⟩, .inr ⟨_, ⟨k + 1, by rw [HNE.out]; omega, by rw [List.range_succ]⟩, hJx3⟩⟩
    · have hke : k = N := by omega
      gi_wp2
      go_end0
      exact ⟨⟨_, rfl⟩, .inl ⟨_, by rw [hke, HNE.out], hJs⟩⟩

set_option maxHeartbeats 1000000 in
theorem turnedWords_in (F : Fence) (n : Nat) (hf : F.fn 123) (hro : F.round = none) (x : ByteArray) (w : World) :
    CallsIn F n Try.prog 123 #[.string x] w fun e w' => e = .returned (.func (.func 164) #[] #[.pointer (some ⟨w.heap.size, 0, none⟩)]) ∧ w' = w.alloc (.cells #[.string x] 9) := by
  refine callsIn_of_wp Try.func123 rfl hf ?_ hro
  simp only [Try.ntmps123, List.size_toArray, List.length_cons, List.length_nil, Nat.reduceAdd, Nat.reduceSub, Array.replicate_succ, Array.replicate_zero, List.push_toArray, List.append_toArray, List.nil_append, List.cons_append]
  gi_wp2
  go_ret
  exact ⟨rfl, rfl⟩

theorem turned_stops (F : Fence) (n : Nat) (hf : F.fn 164) (hro : F.round = none) (hn : 1 ≤ n) (b1 n₀ : Nat) (x : ByteArray) (hx : x.size ≤ 60) (w : World) (c1 : Boxed w b1 9 (.string x)) :
    SeqStopsK F n Try.prog 164 #[.pointer (some ⟨b1, 0, none⟩)] (encT x) (KpT n₀ b1) (fun ys => ys = List.range (max 1 x.size)) (fun pre => ∃ j, j ≤ max 1 x.size ∧ pre = List.range j) (max 1 x.size) w := fun l J Jx W hW hA _ hY h0 =>
  turned1_in F n hf hro hn l b1 n₀ x hx J Jx W hA hY ((hW.block b1 c1.lt).trans c1) h0

end Go.Proofs.Ythjbdcoklgnnlab
