/- The laws' joined list of texts. -/
import Derived.Test.YthjbdcoklgnnlabLynParts
import Derived.Test.YthjbdcoklgnnlabStrs
import Derived.Deep.LoopGhost
namespace Go.Proofs.Ythjbdcoklgnnlab
set_option linter.unusedVariables false
set_option linter.unusedSimpArgs false
open Go.RowKit

theorem OwnS.lookQ {w : World} {B : Nat} {v : Value} {L : List ByteArray} (h : OwnS w B v L) : ∃ ad cap, v = .slice ad L.length cap ∧ ∀ j (hj : j < L.length), ∃ g, ad = some ⟨g, 0, none⟩ ∧ g < w.heap.size ∧ j < cap ∧ w.cell? ⟨g, j, none⟩ = some (.string (L[j]'hj)) := by
  by_cases hn : 0 < L.length
  · obtain ⟨g, cap, rfl, _, hg, hc, _, cell, _⟩ := h.row hn
    exact ⟨_, _, rfl, fun j hj => ⟨g, rfl, hg, by omega, cell j hj⟩⟩
  · have e : L = [] := List.length_eq_zero_iff.1 (by omega)
    subst e
    obtain ⟨a, c, rfl⟩ := h.empty
    exact ⟨a, c, rfl, fun j hj => absurd hj (by simp)⟩
def jtL (L : List ByteArray) (k : Nat) : List UInt8 := ((L.take k).map bl).flatten
theorem jtL_len (L : List ByteArray) (k : Nat) : (jtL L k).length ≤ (L.map bl).flatten.length := by
  unfold jtL
  conv => rhs; rw [← List.take_append_drop k L, List.map_append, List.flatten_append, List.length_append]
  omega
theorem jtL_snoc (L : List ByteArray) (k : Nat) (h : k < L.length) : ofL (jtL L k) ++ L[k]'h = ofL (jtL L (k + 1)) := by
  apply bl_inj
  rw [bl_append, bl_ofL, bl_ofL]
  unfold jtL
  rw [List.take_succ_eq_append_getElem h, List.map_append, List.flatten_append]
  simp
theorem ofL_size (l : List UInt8) : (ofL l).size = l.length := rfl

set_option maxRecDepth 100000 in
set_option maxHeartbeats 1000000 in
theorem joined_any (B1 : Nat) (v1 : Value) (L : List ByteArray) (w : World) (h1 : OwnS w B1 v1 L) (hs : (L.map bl).flatten.length ≤ 1000) (hll : L.length ≤ 100000) :
    Calls Try.prog 53 #[v1] w fun e w' => e = .returned (.string (ofL (L.map bl).flatten)) ∧ Below w.heap.size w w' := by
  obtain ⟨ad1, cap1, rfl, look1⟩ := h1.lookQ
  have K1 := Lib.hid look1
  have HS := Lib.hid hs
  clear look1 h1 hs
  go_enter Try.func53, Try.ntmps53
  go_wp2
  go_loopg [3, 4] L.length (fun g s3 s4 wr => ∃ k : Nat, k + g = L.length ∧ s3 = .string (ofL (jtL L k)) ∧ s4 = .int .i64 (k : Int) ∧ Below w.heap.size w wr)
  case atStart => exact ⟨0, by omega, rfl, rfl, Below.refl _ _⟩
  case round =>
    obtain ⟨k, hk, rfl, rfl, hB⟩ := hrel
    by_cases hp : k < L.length
    · obtain ⟨g, rfl⟩ : ∃ q, gk = q + 1 := ⟨gk - 1, by omega⟩
      have hpi : (k : Int) < (L.length : Int) := by omega
      obtain ⟨g1, rfl, hg1, hjc, jc⟩ := K1.out k hp
      have jc1 : wr.cell? ⟨g1, k, none⟩ = some (.string (L[k]'hp)) := by rw [(bcell hB).1 g1 k hg1, jc]
      have hsn := jtL_snoc L k hp
      have h1 := jtL_len L k
      have h2 := jtL_len L (k + 1)
      have h3 := HS.out
      have z1 := ofL_size (jtL L k)
      have z2 := ofL_size (jtL L (k + 1))
      have z3 := congrArg ByteArray.size hsn
      rw [ByteArray.size_append] at z3
      have hsum : ∀ W, (Op.stringOp .add (ofL (jtL L k)) (L[k]'hp)).run Try.prog W = .ok (.string (ofL (jtL L (k + 1)))) W := fun W => by
        rw [← hsn]; exact run_string_add_sum W _ _ (by omega)
      have HK := Lib.hid hk
      clear hsn h1 h2 h3 z1 z2 z3 hk jc
      obtain ⟨s2, hs2⟩ : ∃ q, ofL (jtL L (k + 1)) = q := ⟨_, rfl⟩
      rw [hs2] at hsum
      have HS2 := Lib.hid hs2
      clear hs2
      generalize L[k]'hp = z at *
      generalize ofL (jtL L k) = s at *
      go_wp2
      go_roundg g
      case measure => omega
      case rel => exact ⟨k + 1, by have := HK.out; omega, by rw [HS2.out], by go_num, hB⟩
    · have hpi : ¬ (k : Int) < (L.length : Int) := by omega
      have HV : Hid (ofL (jtL L k) = ofL (L.map bl).flatten) := Lib.hid (by unfold jtL; rw [List.take_of_length_le (by omega)])
      generalize ofL (jtL L k) = s at *
      go_wp2
      go_ret
      exact ⟨by rw [HV.out]; rfl, hB⟩

end Go.Proofs.Ythjbdcoklgnnlab
