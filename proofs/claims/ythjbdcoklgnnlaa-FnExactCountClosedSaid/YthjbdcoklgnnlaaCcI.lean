/- The numbers of closed and privileged factors: the program. -/
import Derived.Test.YthjbdcoklgnnlaaClosed
import Derived.Test.YthjbdcoklgnnlaaDfCl
import Derived.Test.YthjbdcoklgnnlaaDfPr
import Derived.Test.YthjbdcoklgnnlaaWord
import Derived.Test.YthjbdcoklgnnlaaInts
namespace Go.Proofs.Ythjbdcoklgnnlaa
set_option linter.unusedVariables false
set_option linter.unusedSimpArgs false
open Go.RowKit

theorem cell_two (W : World) (a b : Value) (t : TypeId) : (W.alloc (.cells #[a, b] t)).cell? ⟨W.heap.size, 0, none⟩ = some a ∧ (W.alloc (.cells #[a, b] t)).cell? ⟨W.heap.size, 1, none⟩ = some b := by
  have e : (W.alloc (.cells #[a, b] t)).heap[W.heap.size]? = some (.cells #[a, b] t) := World.alloc_heap_new W _
  constructor <;> (unfold World.cell?; rw [show (⟨W.heap.size, _, none⟩ : Addr).block = W.heap.size from rfl, e]; rfl)
theorem OwnS.formC {w : World} {B : Nat} {v : Value} {L : List ByteArray} (h : OwnS w B v L) : ∃ a c, v = .slice a L.length c := by
  rcases own_forms h with ⟨rfl, h0, _⟩ | ⟨g, cap, rfl, _⟩
  · exact ⟨_, _, by rw [h0]⟩
  · exact ⟨_, _, rfl⟩

set_option maxRecDepth 100000 in
set_option maxHeartbeats 1000000 in
theorem impl_CountClosed (x : ByteArray) (w : World) (sx : x.size ≤ maxLen) (hM : MaxOK w) :
    Calls Try.prog 44 #[.string x] w fun e w' => e = .returned (.tuple #[.int .i64 (ccR x).1, .int .i64 (ccR x).2.1, .int .i64 (ccR x).2.2]) ∧ Below w.heap.size w w' := by
  by_cases h : IsW x
  · rw [ccR_ok h]
    obtain ⟨i0, hi, hz0, hz1, hz2⟩ := info_parts infoI64
    have CC : Hid (∀ w', MaxOK w' → Calls Try.prog 51 #[.string x, .func (.func 63) #[] #[]] w' fun e w'' => ∃ v, e = .returned v ∧ OwnS w'' w'.heap.size v (dfT clT x x.size) ∧ Below w'.heap.size w' w'') := Lib.hid fun w' hw => df_DfCl clT x w' h (fun z W hz hW => isClosed_any z W hz (hw.below hW))
    have CP : Hid (∀ w', MaxOK w' → Calls Try.prog 51 #[.string x, .func (.func 64) #[] #[]] w' fun e w'' => ∃ v, e = .returned v ∧ OwnS w'' w'.heap.size v (dfT prT x x.size) ∧ Below w'.heap.size w' w'') := Lib.hid fun w' hw => df_DfPr prT x w' h (fun z W hz hW => isPriv_any 60 z W hz hz (hw.below hW))
    have hc := dfT_len60 clT h.size (Nat.le_refl x.size)
    have hp := dfT_len60 prT h.size (Nat.le_refl x.size)
    generalize dfT clT x x.size = LC at *
    generalize dfT prT x x.size = LP at *
    have H := Lib.hid h
    have HM := Lib.hid hM
    clear h hM
    go_enter Try.func44, Try.ntmps44
    go_wp2_with (first | (go_at_call 50; refine (isWord_yes x _ H.out).mono ?_; rintro e w1 ⟨rfl, b1⟩; have hb1 := b1.size) | (at_make; refine wpList_make_full _ rfl _ _ 34 rfl w1.heap.size 2 i0 (.int .i64 0) 1 Try.underlying34 hi hz0 hz1 .i64 .i64 2 2 2 rfl rfl rfl rfl (by rw [hz2]; decide) (by decide) (by simp) ?_; intro w2 hown hgrow))
    have hs1 : (w1.alloc (.cells #[.func (.func 63) #[] #[], .func (.func 64) #[] #[]] 44)).heap.size = w1.heap.size + 1 := by simp
    have B2 : Below (w1.heap.size + 1) (w1.alloc (.cells #[.func (.func 63) #[] #[], .func (.func 64) #[] #[]] 44)) w2 := (Below.refl _ _).grown hgrow (by omega) (fun _ e => by cases e)
    have k0 : w2.cell? ⟨w1.heap.size, 0, none⟩ = some (.func (.func 63) #[] #[]) := (B2.cell (p := ⟨w1.heap.size, 0, none⟩) (by show w1.heap.size < w1.heap.size + 1; omega)).trans (cell_two w1 _ _ _).1
    have k1 : w2.cell? ⟨w1.heap.size, 1, none⟩ = some (.func (.func 64) #[] #[]) := (B2.cell (p := ⟨w1.heap.size, 1, none⟩) (by show w1.heap.size < w1.heap.size + 1; omega)).trans (cell_two w1 _ _ _).2
    have hr : w2.ownsRow w1.heap.size 2 1 (.slice (some ⟨w1.heap.size + 1, 0, none⟩) 2 2) 2 [.int .i64 0, .int .i64 0] := by
      have h2 := hown
      rw [hs1, show (Value.int .i64 0).cells = #[Value.int .i64 0] from rfl, toList_madeCells_one] at h2
      exact h2
    have l2 := (World.ownsRow.lt hr (w1.heap.size + 1) rfl).2
    have B2' : Below w1.heap.size w1 w2 := (Below.new w1 _).trans (B2.mono (by omega))
    have M2 := (HM.out.below b1).below B2'
    clear hown hgrow B2 hs1
    refine wp_loop_rounds 3 ?_
    rw [rounds_succ]
    go_wp2_with (go_at_call 51; refine (CC.out _ M2).mono ?_; rintro e w3 ⟨v3, rfl, o3, b3⟩; obtain ⟨a3, c3, rfl⟩ := o3.formC; have r3 := own_below hr b3; have f3 := r3.frozenAt 0; have c30 := r3.cellAt 0 (by decide); have hst := (r3.stored 0 (.int .i64 (LC.length : Int))).1)
    have l3 : w1.heap.size + 1 < w3.heap.size := Nat.lt_of_lt_of_le l2 b3.size
    have k13 : w3.cell? ⟨w1.heap.size, 1, none⟩ = some (.func (.func 64) #[] #[]) := (b3.cell (p := ⟨w1.heap.size, 1, none⟩) (by show w1.heap.size < w2.heap.size; omega)).trans k1
    have B3 := B2'.then b3
    have M3 := M2.below b3
    have g3 : w3.grownBy (w3.setCell ⟨w1.heap.size + 1, 0, none⟩ (.int .i64 (LC.length : Int))) (some (w1.heap.size + 1)) := grown_set (grown_refl w3 (some (w1.heap.size + 1))) 0 _
    have B4 : Below w1.heap.size w1 (w3.setCell ⟨w1.heap.size + 1, 0, none⟩ (.int .i64 (LC.length : Int))) := B3.setCell (p := ⟨w1.heap.size + 1, 0, none⟩) (by show w1.heap.size ≤ w1.heap.size + 1; omega) _
    have k14 : (w3.setCell ⟨w1.heap.size + 1, 0, none⟩ (.int .i64 (LC.length : Int))).cell? ⟨w1.heap.size, 1, none⟩ = some (.func (.func 64) #[] #[]) := by
      rw [← k13]
      unfold World.cell?
      rw [show (⟨w1.heap.size, 1, none⟩ : Addr).block = w1.heap.size from rfl, g3.block w1.heap.size (by omega) (fun e => by have := Option.some.inj e; omega)]
    have M4 := ((HM.out.below b1).below B4)
    have l4 : w1.heap.size + 1 < (w3.setCell ⟨w1.heap.size + 1, 0, none⟩ (.int .i64 (LC.length : Int))).heap.size := by simpa [World.setCell] using l3
    generalize w3.setCell ⟨w1.heap.size + 1, 0, none⟩ (.int .i64 (LC.length : Int)) = w4 at *
    clear k0 k1 hr M2 b3 r3 f3 c30 l3 k13 B3 M3 g3 o3 B2' l2
    rw [rounds_succ]
    go_wp2_with (go_at_call 51; refine (CP.out _ M4).mono ?_; rintro e w5 ⟨v5, rfl, o5, b5⟩; obtain ⟨a5, c5, rfl⟩ := o5.formC; have r5 := own_below hst b5; have f5 := r5.frozenAt 1; have c51 := r5.cellAt 1 (by decide); have hst2 := (r5.stored 1 (.int .i64 (LP.length : Int))).1)
    have B6 : Below w1.heap.size w1 (w5.setCell ⟨w1.heap.size + 1, 1, none⟩ (.int .i64 (LP.length : Int))) := (B4.then b5).setCell (p := ⟨w1.heap.size + 1, 1, none⟩) (by show w1.heap.size ≤ w1.heap.size + 1; omega) _
    have d0 := hst2.cellAt 0 (by decide)
    have d1 := hst2.cellAt 1 (by decide)
    generalize w5.setCell ⟨w1.heap.size + 1, 1, none⟩ (.int .i64 (LP.length : Int)) = w6 at *
    clear hst hst2 k14 M4 l4 r5 f5 c51 b5 o5 B4
    simp at d0 d1
    rw [rounds_succ]
    go_wp2
    go_quiet (fail)
    go_wp2
    go_ret3
    exact ⟨rfl, (b1.then B6).drewN _⟩
  · rw [ccR_bad h]
    have H := Lib.hid h
    clear h
    go_enter Try.func44, Try.ntmps44
    go_wp2_with (go_at_call 50; refine (isWord_not x _ sx H.out).mono ?_; rintro e w1 ⟨rfl, b1⟩)
    go_ret3
    exact ⟨rfl, b1⟩

end Go.Proofs.Ythjbdcoklgnnlaa
