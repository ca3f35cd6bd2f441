/- Unavoidable patterns: the program. -/
import Derived.Test.YtfipbnognjepkaaGreatDoorPatF
import Derived.Test.YtfipbnognjepkaaGreatDoorUnaS
import Derived.Test.YtfipbnognjepkaaGreatDoorPatH
import Derived.Deep.RegionHeld3
namespace Go.Proofs.YtfipbnognjepkaaGreatDoor
set_option linter.unusedVariables false
set_option linter.unusedSimpArgs false
open Go.RowKit

theorem firstFit_form (p x : ByteArray) (hp : IsP p) (hx : IsW x) (w : World) :
    Calls Tryz.prog 71 #[.string x, .string p] w fun e w' => ∃ (i : Int) (va : Option Addr) (vn vc : Nat), e = .returned (.tuple #[.agg #[.int .i64 i, .slice va vn vc], .bool (hasB (bl x) (bl p))]) ∧ Below w.heap.size w w' := by
  refine (firstFit_any p x hp hx w).mono ?_
  have hhb : hasB (bl x) (bl p) = (pff (bl x) (bl p)).isSome := rfl
  rw [hhb]
  generalize pff (bl x) (bl p) = r
  rintro e w' ⟨b, g, hg, he, hL⟩
  cases r with
  | none =>
    obtain rfl : e = .returned (.tuple #[.agg #[.int .i64 0, .slice none 0 0], .bool false]) := he
    exact ⟨_, _, _, _, rfl, b⟩
  | some iW =>
    obtain ⟨i, W⟩ := iW
    obtain ⟨v1, rfl, hown⟩ := he
    obtain ⟨va, vn, vc, rfl⟩ := hown.shape
    exact ⟨_, _, _, _, rfl, b⟩
theorem isW_zim {n : Nat} (h : n ≤ 5) : IsW (bt (zimL n)) := by
  have hm : ∀ n, n ≤ 5 → ∀ c ∈ zimL n, 97 ≤ c.toNat ∧ c.toNat ≤ 101 := by
    intro n
    induction n with
    | zero => intro _ c hc; cases hc
    | succ n ih =>
      intro h c hc
      rw [zimL, List.mem_append, List.mem_cons] at hc
      rcases hc with hc | rfl | hc
      · exact ih (by omega) c hc
      · have := letB_nat (n := (n : Int)) (by omega) (by omega)
        omega
      · exact ih (by omega) c hc
  refine ⟨by have := zim_size h; omega, fun i hi => ?_⟩
  exact hm n h _ (List.getElem_mem (by exact hi))

/-- A fit that was made and not yet written. -/
def FitZ (W : World) (B g : Nat) : Prop := B ≤ g ∧ g < W.heap.size ∧ W.cell? ⟨g, 0, none⟩ = some (.int .i64 0) ∧ W.cell? ⟨g, 1, none⟩ = some (.slice none 0 0) ∧ W.frozen? ⟨g, 0, none⟩ = false ∧ W.frozen? ⟨g, 1, none⟩ = false
theorem FitZ.past {W W' : World} {B g : Nat} (hb : Below W.heap.size W W') (h : FitZ W B g) : FitZ W' B g :=
  ⟨h.1, Nat.lt_of_lt_of_le h.2.1 hb.size, by rw [(bcell hb).1 g 0 h.2.1]; exact h.2.2.1, by rw [(bcell hb).1 g 1 h.2.1]; exact h.2.2.2.1, by rw [(bcell hb).2 g 0 h.2.1]; exact h.2.2.2.2.1, by rw [(bcell hb).2 g 1 h.2.1]; exact h.2.2.2.2.2⟩
theorem FitZ.new {W : World} {B : Nat} (h : B ≤ W.heap.size) : FitZ (W.alloc (.cells #[.int .i64 0, .slice none 0 0] 81)) B W.heap.size :=
  ⟨h, by simp, by simp [go_sem], by simp [go_sem], by simp [go_sem], by simp [go_sem]⟩
section
variable {W1 w' : World} {b1 : Nat} {p : ByteArray}
theorem su_of (h1 : W1.cell? ⟨b1, 0, none⟩ = some (.string p)) (l1 : b1 < W1.heap.size) (hb : Below W1.heap.size W1 w') : w'.cell? ⟨b1, 0, none⟩ = some (.string p) ∧ Below W1.heap.size W1 w' :=
  ⟨by rw [(bcell hb).1 b1 0 l1]; exact h1, hb⟩
end

set_option maxRecDepth 100000 in
set_option maxHeartbeats 2000000 in
theorem IsUnavoidable1_any (b1 : Nat) (p : ByteArray) (w : World) (c1 : Boxed w b1 9 (.string p)) (sp : p.size ≤ maxLen) :
    Calls Tryz.prog 70 #[.pointer (some ⟨b1, 0, none⟩)] w fun e w' => EndB (unavR p) e ∧ Below w.heap.size w w' := by
  have k1 := c1.cell
  have l1 := c1.lt
  by_cases hp : IsP p
  · rw [unavR_ok hp]
    have HP := Lib.hid hp
    obtain ⟨N, hN⟩ : ∃ N, (vsOf (bl p)).length = N := ⟨_, rfl⟩
    have hN3 : N ≤ 3 := by rw [← hN]; exact vsOf_len3 _
    rw [hN]
    have hvs : (vsT (bl p)).size = N := by rw [← hN]; exact vsT_size (bl p)
    have CV := Lib.hid (fun W => variablesIn_any p hp W)
    have CZ := Lib.hid (fun W => ziminWord_any N (by omega) W)
    have CF := Lib.hid (fun W => by have q := firstFit_form p (bt (zimL N)) hp (isW_zim (by omega)) W; exact q)
    have hbl : bl (bt (zimL N)) = zimL N := rfl
    rw [hbl] at CF
    obtain ⟨r, hr⟩ : ∃ r, hasB (zimL N) (bl p) = r := ⟨_, rfl⟩
    rw [hr] at CF ⊢
    generalize bt (zimL N) = z at *
    generalize vsT (bl p) = vt at *
    clear hp hN hr sp hbl
    go_enter Tryz.func70, Tryz.ntmps70
    go_wp2_with (first | (go_at_call 21; (with_reducible refine (isPattern_yes p HP.out _).mono ?_); rintro e w1 ⟨rfl, a1⟩; have d1 := boxed_past c1 a1 l1; have k4 := d1.cell; have l4 := d1.lt) | (go_at_call 55; (with_reducible refine (refuse_yes _ _).mono ?_); rintro e w3 ⟨rfl, rfl⟩))
    go_region_held3 (fun w' => w'.cell? ⟨b1, 0, none⟩ = some (.string p) ∧ Below w3.heap.size w3 w') (first | assumption | exact su_of k4 l4 (Below.refl _ _) | exact su_of k4 l4 (Below.refl _ _).drew | exact su_of k4 l4 (Below.drew ((by assumption : (_ ∧ Below w3.heap.size w3 _)).2)) | exact su_of k4 l4 (Below.alloc ((by assumption : (_ ∧ Below w3.heap.size w3 _)).2) ((by assumption : (_ ∧ Below w3.heap.size w3 _)).2.size) _) | exact su_of k4 l4 (Below.alloc (Below.refl _ _).drew (Nat.le_refl _) _) | exact su_of k4 l4 ((((by assumption : (_ ∧ Below w3.heap.size w3 _)).2).setCell (p := ⟨_, 0, none⟩) (by first | exact (by assumption : FitZ _ w3.heap.size _).1 | exact ((by assumption : (_ ∧ Below w3.heap.size w3 _)).2).size) _).setCell (p := ⟨_, 1, none⟩) (by first | exact (by assumption : FitZ _ w3.heap.size _).1 | exact ((by assumption : (_ ∧ Below w3.heap.size w3 _)).2).size) _) | (refine su_of k4 l4 ?_; go_keep)) (first | (go_at_call 72; refine (CV.out _).mono ?_; rintro e w5 ⟨rfl, b5⟩; have kp := su_of k4 l4 (((by first | assumption | exact su_of k4 l4 (Below.refl _ _).drew | exact su_of k4 l4 (Below.alloc (Below.refl _ _).drew (Nat.le_refl _) _) : (_ ∧ Below w3.heap.size w3 _)).2).then b5); try (have fz := FitZ.past b5 (by first | assumption | exact FitZ.new (by first | exact (Nat.le_refl _) | exact ((by assumption : (_ ∧ Below w3.heap.size w3 _)).2.size)) : FitZ _ w3.heap.size _); have fz1 := fz.2.2.1; have fz2 := fz.2.2.2.1; have fz3 := fz.2.2.2.2.1; have fz4 := fz.2.2.2.2.2)) | (go_at_call 65; refine (CZ.out _).mono ?_; rintro e w5 ⟨rfl, b5⟩; have kp := su_of k4 l4 (((by first | assumption | exact su_of k4 l4 (Below.refl _ _).drew | exact su_of k4 l4 (Below.alloc (Below.refl _ _).drew (Nat.le_refl _) _) : (_ ∧ Below w3.heap.size w3 _)).2).then b5); try (have fz := FitZ.past b5 (by first | assumption | exact FitZ.new (by first | exact (Nat.le_refl _) | exact ((by assumption : (_ ∧ Below w3.heap.size w3 _)).2.size)) : FitZ _ w3.heap.size _); have fz1 := fz.2.2.1; have fz2 := fz.2.2.2.1; have fz3 := fz.2.2.2.2.1; have fz4 := fz.2.2.2.2.2)) | (go_at_call 71; refine (CF.out _).mono ?_; rintro e w5 ⟨fi, va, vn, vc, rfl, b5⟩; have kp := su_of k4 l4 (((by first | assumption | exact su_of k4 l4 (Below.refl _ _).drew | exact su_of k4 l4 (Below.alloc (Below.refl _ _).drew (Nat.le_refl _) _) : (_ ∧ Below w3.heap.size w3 _)).2).then b5); try (have fz := FitZ.past b5 (by first | assumption | exact FitZ.new (by first | exact (Nat.le_refl _) | exact ((by assumption : (_ ∧ Below w3.heap.size w3 _)).2.size)) : FitZ _ w3.heap.size _); have fz1 := fz.2.2.1; have fz2 := fz.2.2.2.1; have fz3 := fz.2.2.2.2.1; have fz4 := fz.2.2.2.2.2)))
    all_goals (try go_wp2_with fail)
    all_goals (
      go_ret
      exact ⟨.inl ⟨rfl, rfl⟩, a1.then ((by assumption : (_ ∧ Below w3.heap.size w3 _)).2)⟩)
  · rw [unavR_bad hp]
    have HP := Lib.hid hp
    have SP := Lib.hid sp
    clear hp sp
    go_enter Tryz.func70, Tryz.ntmps70
    go_wp2_with (first | (go_at_call 21; (with_reducible refine (isPattern_no p SP.out HP.out _).mono ?_); rintro e w1 ⟨rfl, a1⟩) | (go_at_call 55; (with_reducible refine (refuse_no _ _).mono ?_); rintro e w3 ⟨rfl, rfl⟩))
    exact ⟨rfl, .inr ⟨rfl, rfl⟩, a1⟩

set_option maxRecDepth 100000 in
set_option maxHeartbeats 1000000 in
theorem impl_IsUnavoidable (p : ByteArray) (w : World) (sp : p.size ≤ maxLen) :
    Calls Tryz.prog 19 #[.string p] w fun e w' => e = .returned (.tuple #[.bool (unavR p).1, .int .i64 (unavR p).2]) ∧ Below w.heap.size w w' := by
  have c1 : Boxed (w.alloc (.cells #[.string p] 9)) w.heap.size 9 (.string p) := Boxed.new w _ _
  have C1 := Lib.hid (c1.alloc (.cells #[.int .i64 0] 2))
  clear c1
  go_enter Tryz.func19, Tryz.ntmps19
  go_wp2_with (go_at_call 69; refine (door_test 70 _ _ (unavR p) (enters_of Tryz.func70 (by kernel_rfl) rfl) (IsUnavoidable1_any w.heap.size p _ C1.out sp)).mono ?_; rintro e w1 ⟨rfl, b1⟩)
  go_ret2
  exact ⟨rfl, (Below.new w _).then b1⟩

end Go.Proofs.YtfipbnognjepkaaGreatDoor
