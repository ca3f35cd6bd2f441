/- The searches behind their doors: ends of words, first fits; the closures of chapter 10. -/
import Derived.Test.YtfipbnognjepkaaDoorPatI
import Derived.Test.YtfipbnognjepkaaDoorDoorT
namespace Go.Proofs.YtfipbnognjepkaaDoor
set_option linter.unusedVariables false
set_option linter.unusedSimpArgs false
open Go.RowKit

set_option maxRecDepth 100000 in
set_option maxHeartbeats 2000000 in
theorem firstFit_any (p x : ByteArray) (hp : IsP p) (hx : IsW x) (w : World) :
    Calls Tryd.prog 71 #[.string x, .string p] w (FoundRet p x (pff (bl x) (bl p)) w) := by
  generalize hrr : pff (bl x) (bl p) = r at *
  have CF := Lib.hid (fun (W : World) (c1 : W.cell? ⟨w.heap.size + 1, 0, none⟩ = some (.string p)) (c2 : W.cell? ⟨w.heap.size, 0, none⟩ = some (.string x)) => by
    have h : Calls Tryd.prog _ _ W (FoundBy p x (pff (bl x) (bl p)) W) := first_body p x hp hx (w.heap.size + 1) w.heap.size W c1 c2
    rw [hrr] at h
    exact h)
  clear hrr
  cases r with
  | none =>
    go_enter Tryd.func71, Tryd.ntmps71
    go_wp2_with (go_at_call 133; refine (fitFoundBy_any 134 _ _ p x none (enters_of Tryd.func134 (by kernel_rfl) rfl) (CF.out _ (by simp [fdW, go_sem]) (by simp [fdW, go_sem]))).mono ?_; rintro e w1 ⟨b1, g, hg, he, hL⟩; obtain rfl : e = .returned (.tuple #[.agg #[.int .i64 0, .slice none 0 0], .bool false]) := he; have k0 : w1.cell? ⟨w.heap.size + 1 + 1, 0, none⟩ = some (.int .i64 0) := (by rw [(bcell b1).1 _ _ (by simp)]; simp [go_sem]); have k1 : w1.cell? ⟨w.heap.size + 1 + 1, 1, none⟩ = some (.slice none 0 0) := (by rw [(bcell b1).1 _ _ (by simp)]; simp [go_sem]); have f0 : w1.frozen? ⟨w.heap.size + 1 + 1, 0, none⟩ = false := (by rw [(bcell b1).2 _ _ (by simp)]; simp [go_sem]); have f1 : w1.frozen? ⟨w.heap.size + 1 + 1, 1, none⟩ = false := (by rw [(bcell b1).2 _ _ (by simp)]; simp [go_sem]))
    have hgg : w.heap.size + 3 ≤ g := by simp at hg; omega
    have bt : Below w.heap.size w w1 := (((Below.new w _).alloc (by simp) _).alloc (by simp; omega) _).then b1
    refine bodyPost_ret (v := .tuple #[.agg #[.int .i64 0, .slice none 0 0], .bool false]) (by simp [results, Tryd.results71, go_sem, k0, k1, f0, f1]) rfl ?_
    exact ⟨(bt.setCell (p := ⟨w.heap.size + 1 + 1, 0, none⟩) (by show w.heap.size ≤ w.heap.size + 1 + 1; omega) _).setCell (p := ⟨w.heap.size + 1 + 1, 1, none⟩) (by show w.heap.size ≤ w.heap.size + 1 + 1; omega) _, g, by omega, rfl,
      (hL.set ⟨w.heap.size + 1 + 1, 0, none⟩ _ (by show w.heap.size + 1 + 1 ≠ g; omega)).set ⟨w.heap.size + 1 + 1, 1, none⟩ _ (by show w.heap.size + 1 + 1 ≠ g; omega)⟩
  | some iW =>
    obtain ⟨i, W⟩ := iW
    go_enter Tryd.func71, Tryd.ntmps71
    go_wp2_with (go_at_call 133; refine (fitFoundBy_any 134 _ _ p x (some (i, W)) (enters_of Tryd.func134 (by kernel_rfl) rfl) (CF.out _ (by simp [fdW, go_sem]) (by simp [fdW, go_sem]))).mono ?_; rintro e w1 ⟨b1, g, hg, he, hL⟩; obtain ⟨v1, rfl, hown⟩ := he; obtain ⟨va, vn, vc, rfl⟩ := hown.shape; have k0 : w1.cell? ⟨w.heap.size + 1 + 1, 0, none⟩ = some (.int .i64 0) := (by rw [(bcell b1).1 _ _ (by simp)]; simp [go_sem]); have k1 : w1.cell? ⟨w.heap.size + 1 + 1, 1, none⟩ = some (.slice none 0 0) := (by rw [(bcell b1).1 _ _ (by simp)]; simp [go_sem]); have f0 : w1.frozen? ⟨w.heap.size + 1 + 1, 0, none⟩ = false := (by rw [(bcell b1).2 _ _ (by simp)]; simp [go_sem]); have f1 : w1.frozen? ⟨w.heap.size + 1 + 1, 1, none⟩ = false := (by rw [(bcell b1).2 _ _ (by simp)]; simp [go_sem]))
    have hgg : w.heap.size + 3 ≤ g := by simp at hg; omega
    have bt : Below w.heap.size w w1 := (((Below.new w _).alloc (by simp) _).alloc (by simp; omega) _).then b1
    refine bodyPost_ret (v := .tuple #[.agg #[.int .i64 (i : Int), .slice va vn vc], .bool true]) (by simp [results, Tryd.results71, go_sem, k0, k1, f0, f1]) rfl ?_
    refine ⟨(bt.setCell (p := ⟨w.heap.size + 1 + 1, 0, none⟩) (by show w.heap.size ≤ w.heap.size + 1 + 1; omega) _).setCell (p := ⟨w.heap.size + 1 + 1, 1, none⟩) (by show w.heap.size ≤ w.heap.size + 1 + 1; omega) _, g, by omega, ⟨_, rfl, ?_⟩,
      (hL.set ⟨w.heap.size + 1 + 1, 0, none⟩ _ (by show w.heap.size + 1 + 1 ≠ g; omega)).set ⟨w.heap.size + 1 + 1, 1, none⟩ _ (by show w.heap.size + 1 + 1 ≠ g; omega)⟩
    exact ((hown.set ⟨w.heap.size + 1 + 1, 0, none⟩ _ (by simp)).set ⟨w.heap.size + 1 + 1, 1, none⟩ _ (by simp)).base (by simp; omega)

end Go.Proofs.YtfipbnognjepkaaDoor
