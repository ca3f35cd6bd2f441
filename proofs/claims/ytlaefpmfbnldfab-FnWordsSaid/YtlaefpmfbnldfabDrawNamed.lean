/- The model's draw of a named word. -/
import Derived.Test.YtlaefpmfbnldfabDrawInts
import Derived.Test.YtlaefpmfbnldfabStrs
namespace Go.Proofs.Ytlaefpmfbnldfab
set_option linter.unusedVariables false
set_option linter.unusedSimpArgs false
open Go.RowKit

def names7 : List ByteArray := namesL ++ [⟨#[]⟩, ⟨#[84, 104, 117, 101]⟩, ⟨#[103, 111, 108, 100, 101, 110]⟩]
theorem names7_size : ∀ j (h : j < names7.length), (names7[j]'h).size ≤ 100 := by
  have h0 : ∀ s ∈ names7, s.size ≤ 100 := by decide
  exact fun j h => h0 _ (List.getElem_mem h)
theorem cells_grown {L : List ByteArray} {W W' : World} {g b : Nat} (h : ∀ j (h : j < L.length), W.cell? ⟨g, j, none⟩ = some (.string (L[j]'h))) (hg : g < W.heap.size) (hb : g ≠ b) (k : W.grownBy W' (some b)) : ∀ j (h : j < L.length), W'.cell? ⟨g, j, none⟩ = some (.string (L[j]'h)) := fun j hj => by
  rw [grown_cell k (p := ⟨g, j, none⟩) hg (fun e => hb (Option.some.inj e))]; exact h j hj

set_option maxRecDepth 100000 in
set_option maxHeartbeats 2000000 in
theorem DrawNamedWord_any (a : Option Addr) (len cap : Nat) (zs : List Int) (w : World) (h : IsRow .u8 w a len cap zs) (hl : len ≤ 1048576) :
    Calls Try.prog 75 #[.slice a len cap] w (TextI w) := by
  obtain ⟨i0, hi, hz0, hz1, hz2⟩ := info_parts infoStr
  have CF := Lib.hid (l01From_any a len cap zs w h hl)
  clear h
  go_enter Try.func75, Try.ntmps75
  go_wp2_with fail
  refine CF.out.mono ?_
  rintro e W0 ⟨rfl, s0, hB0⟩
  have HB0 := s0.ge
  have hl0 := s0.lt
  clear CF
  go_wp2_with fail
  refine (l01Names_any _).mono ?_
  rintro e W1 ⟨rfl, hW1⟩
  have s1 : Src w W1 w.heap.size := by rw [hW1]; exact s0.below (Below.new _ _)
  have hB1 : Below w.heap.size w W1 := by rw [hW1]; exact hB0.alloc hB0.size _
  have o1 : W1.ownsRow (w.heap.size + 1) 9 1 (.slice (some ⟨W0.heap.size, 0, none⟩) 4 4) 4 (namesL.map Value.string) := by
    rw [hW1]
    exact World.ownsRow_lit W0 (namesL.map Value.string).toArray 4 (by omega) (by decide) (by simp [namesL])
  have hl1 := s1.lt
  clear hW1 s0 hB0
  go_wp2_with (at_builtin; refine wpList_append_own _ rfl _ _ 44 rfl (w.heap.size + 1) 9 i0 (.string ⟨#[]⟩) 1 16 Try.underlying44 hi hz0 hz1 hz2 rfl (by decide) _ _ _ rfl (o1.alloc _) ⟨_, 0, none⟩ 3 3 [.string ⟨#[]⟩, .string ⟨#[84, 104, 117, 101]⟩, .string ⟨#[103, 111, 108, 100, 101, 110]⟩] rfl rfl (by intro j u hu; rw [show (⟨W1.heap.size, 0, none⟩ : Addr).add j = ⟨W1.heap.size, j, none⟩ by simp [Addr.add]; exact fun h => h.symm, World.cell?_alloc_new]; simpa using hu) (by intro u hu; simp at hu; rcases hu with rfl | rfl | rfl <;> rfl) (by decide) (by omega) (by simp; omega) ?_; intro v' W2 hown' hgrow _)
  have hlt1 := World.ownsRow.lt o1
  have hne : some w.heap.size ≠ (Value.slice (some ⟨W0.heap.size, 0, none⟩) 4 4).ownBlock := fun e => by
    have : w.heap.size = W0.heap.size := Option.some.inj e
    omega
  have s2 := (s1.below (Below.new _ _)).grown hgrow hne
  have hB2 := (hB1.alloc hB1.size _).grown hgrow (by simp; omega) (fun q hq => Nat.le_of_succ_le (hlt1 q hq).1)
  have o2 : OwnS W2 (w.heap.size + 1) v' names7 := hown'
  have h7 : 7 ≤ names7.length := by decide
  have h7' : names7.length ≤ 7 := by decide
  have hsz := names7_size
  clear hown' hgrow s1 hB1 o1 hne hlt1
  generalize names7 = L at *
  obtain ⟨gn, cn, rfl, hgB, hgl, hcn, _, cell, _⟩ := o2.row (by omega)
  have hgb : gn ≠ w.heap.size := by omega
  have hcD : ∀ j (h : j < L.length), W2.drew.cell? ⟨gn, j, none⟩ = some (.string (L[j]'h)) := cell
  have hgD : gn < W2.drew.heap.size := hgl
  clear o2
  go_wp2_with fail
  go_region_held3 (fun w' => ∀ j (h : j < L.length), w'.cell? ⟨gn, j, none⟩ = some (.string (L[j]'h))) (first | assumption)
   (first
    | (go_at_call 126; refine (l01Near_any w Wa w.heap.size 60 sa hba (by omega) (by omega)).mono ?_; rintro e Wb ⟨k, rfl, k0, k1, sb, gb⟩; have kb := cells_grown ka hza hgb gb; have hbb := below_src hba HB0 gb)
    | (go_at_call 107; refine (l01Next_i w _ w.heap.size L.length (by first | exact s2 | exact s2.below (Below.refl _ _).drew) (by first | exact hB2.drew | exact hB2) (by omega) (by omega)).mono ?_; rintro e Wa ⟨m0, rfl, m1, m2, sa, ga⟩; have ka := cells_grown hcD hgD hgb ga; have hba := below_src (by first | exact hB2.drew | exact hB2) HB0 ga; have hza : gn < Wa.heap.size := Nat.lt_of_lt_of_le hgD ga.size; obtain ⟨m, rfl⟩ := Int.eq_ofNat_of_zero_le m1; have hm : m < L.length := (by omega); have hm4 : (m : Int) < (L.length : Int) := (by omega); have hmc : m < cn := (by omega)))
  all_goals
    have hsm := hsz m hm
    go_wp2
    go_ret2
    exact ⟨_, k, rfl, by omega, wf_near k0 k1, hbb⟩

end Go.Proofs.Ytlaefpmfbnldfab
