/- Words with names: the images. -/
import Derived.Test.YtlaefpmfbnldfabStrs
import Derived.Test.YtlaefpmfbnldfabWordOfS
import Derived.Test.YtlaefpmfbnldfabNumbers
import Derived.Test.YtlaefpmfbnldfabNamedPlain
import Derived.WalkSpells
namespace Go.Proofs.Ytlaefpmfbnldfab
set_option linter.unusedVariables false
set_option linter.unusedSimpArgs false
open Go.RowKit

def szOf : Value → Nat
  | .string t => t.size
  | _ => 0
theorem OwnS.rowS {w : World} {B : Nat} {v : Value} {I : List (List UInt8)} (h : OwnS w B v (I.map bt)) (hn : 0 < I.length) :
    ∃ g cap, v = .slice (some ⟨g, 0, none⟩) I.length cap ∧ g < w.heap.size ∧ I.length ≤ cap ∧ (∀ j (hj : j < I.length), w.cell? ⟨g, j, none⟩ = some (.string (bt (I[j]'hj)))) := by
  obtain ⟨g, cap, hv, _, hg, hc, _, cell, _⟩ := OwnS.row h (by simpa using hn)
  rw [List.length_map] at hv hc
  refine ⟨g, cap, hv, hg, hc, fun j hj => ?_⟩
  rw [cell j (by simpa using hj), List.getElem_map]


set_option maxRecDepth 100000 in
set_option maxHeartbeats 2000000 in
theorem images_some (s : ByteArray) (d : Nat) (w : World) (hd : d < 4) (hw : way s d) :
    Calls Try.prog 144 #[.string s] w fun e w' => ∃ v, e = .returned v ∧ OwnS w' w.heap.size v ((imgs d).map bt) ∧ Below w.heap.size w w' := by
  rcases (show d = 0 ∨ d = 1 ∨ d = 2 ∨ d = 3 by omega) with rfl | rfl | rfl | rfl
  · obtain ⟨t0, t1, t2, t3⟩ := hw
    clear t1 t2 t3
    simp at t0
    go_enter Try.func144, Try.ntmps144
    go_wp2
    go_ret
    exact ⟨_, rfl, World.ownsRow_lit w #[.string ⟨#[97, 98]⟩, .string ⟨#[97]⟩] 2 (Nat.le_refl _) (by decide) (by simp), Below.new _ _⟩
  · obtain ⟨t0, t1, t2, t3⟩ := hw
    have t1 := t1 (by omega)
    clear t2 t3
    simp at t0 t1
    go_enter Try.func144, Try.ntmps144
    go_wp2
    go_ret
    exact ⟨_, rfl, World.ownsRow_lit w #[.string ⟨#[97, 98]⟩, .string ⟨#[98, 97]⟩] 2 (Nat.le_refl _) (by decide) (by simp), Below.new _ _⟩
  · obtain ⟨t0, t1, t2, t3⟩ := hw
    have t1 := t1 (by omega)
    have t2 := t2 (by omega)
    clear t3
    simp at t0 t1 t2
    go_enter Try.func144, Try.ntmps144
    go_wp2
    go_ret
    exact ⟨_, rfl, World.ownsRow_lit w #[.string ⟨#[97, 98]⟩, .string ⟨#[97, 97]⟩] 2 (Nat.le_refl _) (by decide) (by simp), Below.new _ _⟩
  · obtain ⟨t0, t1, t2, t3⟩ := hw
    have t1 := t1 (by omega)
    have t2 := t2 (by omega)
    have t3 := t3 (by omega)
    clear hd
    simp at t0 t1 t2 t3
    go_enter Try.func144, Try.ntmps144
    go_wp2
    go_ret
    exact ⟨_, rfl, World.ownsRow_lit w #[.string ⟨#[97, 98, 99]⟩, .string ⟨#[97, 99]⟩, .string ⟨#[98]⟩] 3 (Nat.le_refl _) (by decide) (by simp), Below.new _ _⟩

set_option maxRecDepth 100000 in
theorem images_none (s : ByteArray) (w : World) (hw : way s 4) :
    Calls Try.prog 144 #[.string s] w fun e w' => e = .returned (.slice none 0 0) ∧ Below w.heap.size w w' := by
  obtain ⟨t0, t1, t2, t3⟩ := hw
  have t1 := t1 (by omega)
  have t2 := t2 (by omega)
  have t3 := t3 (by omega)
  rw [show decide (4 = 0) = false from rfl] at t0
  rw [show decide (4 = 1) = false from rfl] at t1
  rw [show decide (4 = 2) = false from rfl] at t2
  rw [show decide (4 = 3) = false from rfl] at t3
  go_enter Try.func144, Try.ntmps144
  go_wp2
  go_ret
  exact ⟨rfl, Below.refl _ _⟩

end Go.Proofs.Ytlaefpmfbnldfab
