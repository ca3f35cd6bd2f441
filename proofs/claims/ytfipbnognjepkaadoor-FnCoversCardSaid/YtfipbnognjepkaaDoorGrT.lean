/- GrowByCover: the word that is grown. -/
import Derived.Test.YtfipbnognjepkaaDoorGrI
import Derived.Test.YtfipbnognjepkaaDoorShelf
namespace Go.Proofs.YtfipbnognjepkaaDoor
set_option linter.unusedVariables false
set_option linter.unusedSimpArgs false
open Go.RowKit

def gtL (u : ByteArray) (L : List Int) : List UInt8 := (growT u L).data.toList
theorem gtL_size (u : ByteArray) (L : List Int) : (gtL u L).length = (growT u L).size := by unfold gtL; rw [Array.length_toList]; rfl
theorem gtL_back (u : ByteArray) (L : List Int) : (⟨(gtL u L).toArray⟩ : ByteArray) = growT u L := by unfold gtL; rw [Array.toArray_toList]
theorem gtL_step (u : ByteArray) (L : List Int) (z : Int) : Lib.byteCells (gtL u L) ++ Lib.strCells (u.extract z.toNat u.size) = Lib.byteCells (gtL u (L ++ [z])) := by
  rw [Lib.strCells_eq, ← Lib.byteCells_append]
  unfold gtL
  rw [growT_snoc]
  rw [ByteArray.data_append, Array.toList_append]

set_option maxRecDepth 100000 in
set_option maxHeartbeats 2000000 in
theorem grown_any (B : Nat) (v : Value) (L : List Int) (u : ByteArray) (w : World) (h : OwnI w B v L) (hl : L.length ≤ 1048576) (su : u.size ≤ 60) (hr : ∀ z ∈ L, 0 ≤ z ∧ z < u.size) (hm : growN u.size L ≤ 60) :
    Calls Tryd.prog 119 #[.agg #[.string u, v]] w fun e w' => e = .returned (.string (growT u L)) ∧ Below w.heap.size w w' := by
  obtain ⟨ad, cap, rfl, look⟩ := ownI_lkG h
  have LK := Lib.hid look
  have HR := Lib.hid hr
  have HT : ∀ k, k ≤ L.length → (gtL u (L.take k)).length ≤ 60 := fun k hk => by
    rw [gtL_size]
    have h1 := growT_take L hr k hk
    have h2 := growN_take_le hr k
    omega
  have HTT := Lib.hid HT
  have g0 := Gw2.new w (.string u) (.slice ad L.length cap)
  have B0 : Below w.heap.size w (w.alloc (.cells #[.string u, .slice ad L.length cap] 129)) := Below.new _ _
  have hsz : (w.alloc (.cells #[.string u, .slice ad L.length cap] 129)).heap.size = w.heap.size + 1 := World.size_alloc _ _
  have q0 := g0.c0
  have q1 := g0.c1
  clear look h hr HT hm
  go_enter Tryd.func119, Tryd.ntmps119
  go_wp2_with fail
  generalize hW : w.alloc (.cells #[.string u, .slice ad L.length cap] 129) = W at *
  have hfb : Lib.IsBuilderF 168 5 W.heap.size W.heap.size (Lib.byteCells []) (W.alloc (.cells #[.pointer none, .slice none 0 0] 168)) := Lib.IsBuilderF.of (Lib.fresh_isBuilder 168 5 W)
  rw [hsz] at hfb
  refine (Tryd.Builder_WriteString_k (w.heap.size + 1) (w.heap.size + 1) _ u _ hfb (by simp [Lib.byteCells]; omega) (by simp; omega)).mono ?_
  rintro e w2 ⟨rfl, hI2, b2, _⟩
  rw [show Lib.byteCells [] ++ Lib.strCells u = Lib.byteCells (gtL u (L.take 0)) from rfl] at hI2
  have hB2 : Below W.heap.size W w2 := (Below.new _ _).trans (by rw [hsz]; exact b2)
  have HI2 := Lib.hid hI2
  have g2 := g0.later hB2 g0.lt
  have q2 := g2.c0
  have q3 := g2.c1
  clear hfb hI2
  go_wp2_with fail
  go_loopw [12] (fun s12 wr => Below W.heap.size W wr ∧ ∃ k : Nat, k ≤ L.length ∧ s12 = .int .i64 (k : Int) ∧ Lib.IsBuilderF 168 5 (w.heap.size + 1) (w.heap.size + 1) (Lib.byteCells (gtL u (L.take k))) wr)
    (fun s12 _ => L.length - (intOf s12).toNat)
  case atStart => exact ⟨hB2, 0, Nat.zero_le _, rfl, .inr HI2.out⟩
  case round =>
    obtain ⟨hB, k, hk, rfl, hI⟩ := hrel
    have g3 := g0.later hB g0.lt
    have q4 := g3.c0
    have q5 := g3.c1
    have hbs := hB.size
    have hwr : w.heap.size + 1 ≤ wr.heap.size := by omega
    have HI := Lib.hid hI
    clear hI
    by_cases hp : k < L.length
    · obtain ⟨g, rfl, hg2, hg3, hg4⟩ := LK.out k hp
      have kc : wr.cell? ⟨g, k, none⟩ = some (.int .i64 (L[k]'hp)) := by rw [hB.cell (show g < W.heap.size by omega), B0.cell hg2]; exact hg4
      have hkn : (k : Int) < (L.length : Int) := by omega
      have hk0 : (0 : Int) ≤ (k : Int) := by omega
      obtain ⟨z0, z1⟩ := HR.out _ (List.getElem_mem hp)
      have hs : Lib.byteCells (gtL u (L.take k)) ++ Lib.strCells (u.extract (L[k]'hp).toNat u.size) = Lib.byteCells (gtL u (L.take (k + 1))) := by
        rw [gtL_step, List.take_succ_eq_append_getElem hp]
      have HS := Lib.hid hs
      have hlen := HTT.out k hk
      have HLN := Lib.hid hlen
      clear hg4 hs hlen
      generalize L[k]'hp = z at *
      obtain ⟨n, rfl⟩ : ∃ n : Nat, z = (n : Int) := ⟨z.toNat, by omega⟩
      rw [Int.toNat_natCast] at HS
      go_wp2_with (first | (go_at_call 167; refine (Tryd.Builder_WriteString_k (w.heap.size + 1) (w.heap.size + 1) _ (u.extract n u.size) _ HI.out (by rw [Lib.byteCells_length, ByteArray.size_extract]; have := HLN.out; omega) hwr).mono ?_; rintro e w5 ⟨rfl, hI5, b5, _⟩; rw [← hsz] at b5))
      go_roundw
      case rel => exact ⟨hB.trans b5, k + 1, by omega, by go_num, .inr (by rw [← HS.out]; exact hI5)⟩
      case measure => simp [intOf]; omega
    · obtain rfl : k = L.length := by omega
      have hkn : ¬ (L.length : Int) < (L.length : Int) := by omega
      have e0 : L.take L.length = L := List.take_length
      rw [e0] at HI
      go_wp2_with fail
      refine (Tryd.Builder_String_any_k (w.heap.size + 1) (w.heap.size + 1) (gtL u L) _ HI.out hwr).mono ?_
      rw [gtL_back]
      rintro e w5 ⟨rfl, _, b5, _⟩
      rw [← hsz] at b5
      go_wp2_with fail
      go_ret
      exact ⟨rfl, B0.then (hB.trans b5)⟩

end Go.Proofs.YtfipbnognjepkaaDoor
