/- The words that avoid a pattern, ranged over. -/
import Derived.Test.YtfipbnognjepkaaGreatDoorAvoI
namespace Go.Proofs.YtfipbnognjepkaaGreatDoor
set_option linter.unusedVariables false
set_option linter.unusedSimpArgs false
open Go.RowKit Go.Shelf
attribute [local go_sem] Oper.semAt_some

theorem Boxed.belowA {W W' : World} {B b : Nat} {t : TypeId} {v : Value} (h : Boxed W b t v) (hb : Below B W W') (hlt : b < B) : Boxed W' b t v := (hb.block b hlt).trans h
theorem KeepUp.setA {B b : Nat} (W : World) (v : Value) (h : b < B) : KeepUp B W (W.setCell ⟨b, 0, none⟩ v) :=
  ⟨(grownBy_setCell' W b v).size, fun k h1 h2 => (grownBy_setCell' W b v).block k h2 (fun e => by cases e; omega)⟩

set_option maxRecDepth 100000 in
set_option maxHeartbeats 2000000 in
theorem avoiding1_in (n : Nat) (hn : 1 ≤ n) (l b1 b2 b3 : Nat) (p : ByteArray) (hp : IsP p) (m k : Nat) (hm : m ≤ 12) (hk1 : 1 ≤ k) (hk2 : k ≤ 3) (J Jx : List (List UInt8) → World → Prop) (W : World) (hA : ∀ s A B, J s A → Below W.heap.size A B → J s B)
    (hY : ∀ pre x W1, J pre W1 → pre.length < (avW (bl p) k m []).length → YieldAt Fence.wide (n - 1) Tryz.prog l (encA x) W1 fun e W' =>
      (e = .returned (.bool true) ∧ J (pre ++ [x]) W' ∧ KeepUp W.heap.size W1 W' ∧ ∀ b ∈ ([] : List Nat), W'.heap[b]? = W1.heap[b]?) ∨ (e = .returned (.bool false) ∧ Jx (pre ++ [x]) W'))
    (c1 : Boxed W b1 9 (.string p)) (c2 : Boxed W b2 2 (.int .i64 (k : Int))) (c3 : Boxed W b3 2 (.int .i64 (m : Int))) (h0 : J [] W) :
    CallsIn Fence.wide n Tryz.prog 122 #[.func (.yield l) #[] #[], .pointer (some ⟨b1, 0, none⟩), .pointer (some ⟨b2, 0, none⟩), .pointer (some ⟨b3, 0, none⟩)] W fun e W' => (∃ v, e = .returned v) ∧
      ((∃ ys, ys = avW (bl p) k m [] ∧ J ys W') ∨ (∃ pre, (pre ≠ [] ∧ ∃ t, pre ++ t = avW (bl p) k m []) ∧ Jx pre W')) := by
  have hG := goOn_in n hn l W.heap.size p hp m k hm hk1 hk2 (avW (bl p) k m []).length J Jx hA
    (fun pre x W1 hJ hB hl => (hY pre x W1 hJ hl).mono (fun e W' h => h.imp (fun ⟨a, b, c, _⟩ => ⟨a, b, Nat.le_trans hB c.1⟩) id))
    m ⟨#[]⟩ [] W (show 0 + m = m by omega) isW_nil (Nat.le_refl _) h0 (by show 0 + _ ≤ _; rw [show bl (⟨#[]⟩ : ByteArray) = [] from rfl]; omega)
  have CG := Lib.hid ((callsIn_wide (n := n - 1)).2 (callsIn_wide.1 hG))
  have e1 := c1.cell
  have e2 := c2.cell
  have e3 := c3.cell
  clear hG hY
  refine callsIn_of_wp Tryz.func122 rfl trivial ?_ rfl
  simp only [Tryz.ntmps122, List.size_toArray, List.length_cons, List.length_nil, Nat.reduceAdd, Nat.reduceSub, Array.replicate_succ, Array.replicate_zero, List.push_toArray, List.append_toArray, List.nil_append, List.cons_append]
  gi_wp2_with (refine ⟨trivial, ?_⟩; gi_at_call 123; refine CG.out.mono ?_; rintro e w3 (⟨rfl, hJ3, hs3⟩ | ⟨rfl, q, hq, hJx3⟩))
  · go_end0
    exact ⟨⟨_, rfl⟩, .inl ⟨_, rfl, hJ3⟩⟩
  · go_end0
    exact ⟨⟨_, rfl⟩, .inr ⟨q, hq, hJx3⟩⟩

theorem avoid_up (n : Nat) (hn : 1 ≤ n) (b1 b2 b3 : Nat) (p : ByteArray) (hp : IsP p) (m k : Nat) (hm : m ≤ 12) (hk1 : 1 ≤ k) (hk2 : k ≤ 3) (w : World) (c1 : Boxed w b1 9 (.string p)) (c2 : Boxed w b2 2 (.int .i64 (k : Int))) (c3 : Boxed w b3 2 (.int .i64 (m : Int))) :
    SeqUp Fence.wide n Tryz.prog 122 #[.pointer (some ⟨b1, 0, none⟩), .pointer (some ⟨b2, 0, none⟩), .pointer (some ⟨b3, 0, none⟩)] encA [] (fun ys => ys = avW (bl p) k m []) (fun pre => pre ≠ [] ∧ ∃ t, pre ++ t = avW (bl p) k m []) (avW (bl p) k m []).length w := fun l J Jx W hW hA _ hY h0 =>
  avoiding1_in n hn l b1 b2 b3 p hp m k hm hk1 hk2 J Jx W hA hY ((hW.block b1 c1.lt).trans c1) ((hW.block b2 c2.lt).trans c2) ((hW.block b3 c3.lt).trans c3) h0

set_option maxHeartbeats 1000000 in
theorem avoidingWords_in (n : Nat) (p : ByteArray) (m k : Int) (w : World) :
    CallsIn Fence.wide n Tryz.prog 61 #[.string p, .int .i64 k, .int .i64 m] w fun e w' => e = .returned (.func (.func 122) #[] #[.pointer (some ⟨w.heap.size, 0, none⟩), .pointer (some ⟨w.heap.size + 1, 0, none⟩), .pointer (some ⟨w.heap.size + 1 + 1, 0, none⟩)]) ∧ w' = ((w.alloc (.cells #[.string p] 9)).alloc (.cells #[.int .i64 k] 2)).alloc (.cells #[.int .i64 m] 2) := by
  refine callsIn_of_wp Tryz.func61 rfl trivial ?_ rfl
  simp only [Tryz.ntmps61, List.size_toArray, List.length_cons, List.length_nil, Nat.reduceAdd, Nat.reduceSub, Array.replicate_succ, Array.replicate_zero, List.push_toArray, List.append_toArray, List.nil_append, List.cons_append]
  gi_wp2
  go_ret
  exact ⟨rfl, rfl⟩

end Go.Proofs.YtfipbnognjepkaaGreatDoor
