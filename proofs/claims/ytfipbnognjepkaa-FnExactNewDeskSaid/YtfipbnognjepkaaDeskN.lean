/- The new desk: the model and the program. -/
import Derived.Test.YtfipbnognjepkaaDesk
import Derived.Laws.OwnMore
namespace Go.Proofs.Ytfipbnognjepkaa
set_option linter.unusedVariables false
set_option linter.unusedSimpArgs false
open Go.RowKit

abbrev deskA : ByteArray := ⟨#[97, 98, 97, 97, 98]⟩
abbrev deskP : ByteArray := ⟨#[65, 65]⟩
def deskL : List ByteArray := [⟨#[97, 98]⟩, ⟨#[97]⟩]
theorem desk_own {W W' : World} (h : Below (W.heap.size + 1) (W.alloc (.cells #[.string ⟨#[97, 98]⟩, .string ⟨#[97]⟩] 9)) W') {B : Nat} (hB : B ≤ W.heap.size) : OwnS W' B (.slice (some ⟨W.heap.size, 0, none⟩) 2 2) deskL := by
  have h0 := World.ownsRow_lit (base := W.heap.size) (e := 9) (size := 1) W #[.string ⟨#[97, 98]⟩, .string ⟨#[97]⟩] 2 (Nat.le_refl _) (by decide) rfl
  have h1 : OwnS (W.alloc (.cells #[.string ⟨#[97, 98]⟩, .string ⟨#[97]⟩] 9)) W.heap.size (.slice (some ⟨W.heap.size, 0, none⟩) 2 2) deskL := h0
  exact (h1.below (by simpa using h)).base hB
/-- What a function that makes the new desk comes to. -/
def RetD (w : World) (e : Ending) (w' : World) : Prop := ∃ v, e = .returned (.agg #[.string deskA, .string deskP, v]) ∧ OwnS w' w.heap.size v deskL ∧ Below w.heap.size w w'

set_option maxRecDepth 100000 in
set_option maxHeartbeats 1000000 in
theorem l11New_any (w : World) : Calls Try.prog 57 #[] w (RetD w) := by
  have d0 := (Dk3.new dkI w (.string deskA) (.string deskP) (.slice (some ⟨w.heap.size + 1, 0, none⟩) 2 2)).later (Below.new _ (.cells #[.string ⟨#[97, 98]⟩, .string ⟨#[97]⟩] 9))
  have ho := desk_own (W := w.alloc (.cells #[.string deskA, .string deskP, .slice (some ⟨w.heap.size + 1, 0, none⟩) 2 2] dkI)) (Below.refl _ _) (B := w.heap.size) (by simp)
  rw [World.size_alloc] at ho
  have hB : Below w.heap.size w ((w.alloc (.cells #[.string deskA, .string deskP, .slice (some ⟨w.heap.size + 1, 0, none⟩) 2 2] dkI)).alloc (.cells #[.string ⟨#[97, 98]⟩, .string ⟨#[97]⟩] 9)) := (Below.new _ _).alloc (by simp) _
  have HO := Lib.hid ho
  have HB := Lib.hid hB
  clear ho hB
  go_enter Try.func57, Try.ntmps57
  go_wp2_with fail
  refine bodyPost_ret (v := .agg #[.string deskA, .string deskP, .slice (some ⟨w.heap.size + 1, 0, none⟩) 2 2]) ?_ rfl ⟨_, rfl, HO.out, HB.out⟩
  have h0 := d0.c0
  have h1 := d0.c1
  have h2 := d0.c2
  simp only [deskA, deskP, dkI] at h0 h1 h2
  simp [results, Try.results57, go_sem, h0, h1, h2]

set_option maxRecDepth 100000 in
set_option maxHeartbeats 1000000 in
theorem impl_NewDesk (w : World) : Calls Try.prog 8 #[] w (RetD w) := by
  have d0 := (Dk3.new dkI w (.string deskA) (.string deskP) (.slice (some ⟨w.heap.size + 1, 0, none⟩) 2 2)).later (Below.new _ (.cells #[.string ⟨#[97, 98]⟩, .string ⟨#[97]⟩] 9))
  have ho := desk_own (W := w.alloc (.cells #[.string deskA, .string deskP, .slice (some ⟨w.heap.size + 1, 0, none⟩) 2 2] dkI)) (Below.refl _ _) (B := w.heap.size) (by simp)
  rw [World.size_alloc] at ho
  have hB : Below w.heap.size w ((w.alloc (.cells #[.string deskA, .string deskP, .slice (some ⟨w.heap.size + 1, 0, none⟩) 2 2] dkI)).alloc (.cells #[.string ⟨#[97, 98]⟩, .string ⟨#[97]⟩] 9)) := (Below.new _ _).alloc (by simp) _
  have HO := Lib.hid ho
  have HB := Lib.hid hB
  clear ho hB
  go_enter Try.func8, Try.ntmps8
  go_wp2_with fail
  refine bodyPost_ret (v := .agg #[.string deskA, .string deskP, .slice (some ⟨w.heap.size + 1, 0, none⟩) 2 2]) ?_ rfl ⟨_, rfl, HO.out, HB.out⟩
  have h0 := d0.c0
  have h1 := d0.c1
  have h2 := d0.c2
  simp only [deskA, deskP, dkI] at h0 h1 h2
  simp [results, Try.results8, go_sem, h0, h1, h2]

set_option maxRecDepth 100000 in
set_option maxHeartbeats 1000000 in
theorem spec_NewDesk (w : World) : Calls Try.prog 7 #[] w (RetD w) := by
  have d0 := Dk3.new dkI w (.string ⟨#[]⟩) (.string ⟨#[]⟩) (.slice none 0 0)
  have hB0 : Below w.heap.size w (w.alloc (.cells #[.string ⟨#[]⟩, .string ⟨#[]⟩, .slice none 0 0] dkI)) := Below.new _ _
  have hz : (w.alloc (.cells #[.string ⟨#[]⟩, .string ⟨#[]⟩, .slice none 0 0] dkI)).heap.size = w.heap.size + 1 := by simp
  have CN := Lib.hid (l11New_any (w.alloc (.cells #[.string ⟨#[]⟩, .string ⟨#[]⟩, .slice none 0 0] dkI)))
  generalize hW : w.alloc (.cells #[.string ⟨#[]⟩, .string ⟨#[]⟩, .slice none 0 0] dkI) = W0 at *
  simp only [dkI] at hW
  go_enter Try.func7, Try.ntmps7
  go_wp2_with fail
  clear hW
  refine CN.out.mono ?_
  rintro e w1 ⟨v, rfl, ho, b⟩
  obtain ⟨p, c, rfl⟩ := ownS_value ho
  have d1 := d0.later b
  have B1 := hB0.then b
  have k0 := d1.c0
  have k1 := d1.c1
  have k2 := d1.c2
  have f0 := d1.fz 0
  have f1 := d1.fz 1
  have f2 := d1.fz 2
  have d2 := d1.set3 (.string deskA) (.string deskP) (.slice p deskL.length c)
  have HO : Hid (OwnS (((w1.setCell ⟨w.heap.size, 0, none⟩ (.string deskA)).setCell ⟨w.heap.size, 1, none⟩ (.string deskP)).setCell ⟨w.heap.size, 2, none⟩ (.slice p deskL.length c)) w.heap.size (.slice p deskL.length c) deskL) := Lib.hid (by
    have hlt := ho.lt
    refine own_base (B := W0.heap.size) ?_ (by omega)
    have key : ∀ (W : World) (j : Nat) (u : Value), OwnS W W0.heap.size (.slice p deskL.length c) deskL → OwnS (W.setCell ⟨w.heap.size, j, none⟩ u) W0.heap.size (.slice p deskL.length c) deskL := by
      intro W j u ho
      refine World.ownsRow.kept ho (grown_set (grown_refl W (some w.heap.size)) j u) ?_
      cases hv : (Value.slice p deskL.length c).ownBlock with
      | none => exact .inl rfl
      | some k => refine .inr fun c => ?_; have := (hlt k hv).1; injection c with c2; omega
    exact key _ _ _ (key _ _ _ (key _ _ _ ho)))
  have HB : Hid (Below w.heap.size w (((w1.setCell ⟨w.heap.size, 0, none⟩ (.string deskA)).setCell ⟨w.heap.size, 1, none⟩ (.string deskP)).setCell ⟨w.heap.size, 2, none⟩ (.slice p deskL.length c))) :=
    Lib.hid (((B1.setCell (p := ⟨w.heap.size, 0, none⟩) (Nat.le_refl _) _).setCell (p := ⟨w.heap.size, 1, none⟩) (Nat.le_refl _) _).setCell (p := ⟨w.heap.size, 2, none⟩) (Nat.le_refl _) _)
  have D2 := Lib.hid d2
  clear ho b d1 B1 d2
  go_wp2_with fail
  refine bodyPost_ret (v := .agg #[.string deskA, .string deskP, .slice p deskL.length c]) ?_ rfl ⟨_, rfl, HO.out, HB.out⟩
  have h0 := D2.out.c0
  have h1 := D2.out.c1
  have h2 := D2.out.c2
  simp only [deskA, deskP] at h0 h1 h2
  simp [results, Try.results7, go_sem, h0, h1, h2]

end Go.Proofs.Ytfipbnognjepkaa
