/- A struct of one list of texts that came in: weighed, copied, compared, marked. -/
import Derived.Test.YtfipbnognjepkaaStrs
import Derived.Test.YtfipbnognjepkaaIsRowS
import Derived.Test.YtfipbnognjepkaaMorPlain
import Derived.RangeFuncBox
import Derived.RangeFuncNested
import Derived.Maps.AppendAt
namespace Go.Proofs.Ytfipbnognjepkaa
set_option linter.unusedVariables false
set_option linter.unusedSimpArgs false
open Go.RowKit

theorem boxed_later {W W' : World} {b : Nat} {t : TypeId} {v : Value} (h : Boxed W b t v) (k : Below W.heap.size W W') : Boxed W' b t v := (k.block _ h.lt).trans h
/-- What a call did, told of the world ahead of a draw. -/
theorem below_undrew {W W' : World} (b : Below W.drew.heap.size W.drew W') : Below W.heap.size W W' := (Below.refl _ _).drew.trans b
theorem boxed_alone {W : World} {t : TypeId} {v : Value} : Boxed (W.alloc (.cells #[v] t)) W.heap.size t v := Boxed.new _ _ _

/-- What the weighing of a list of texts comes to. -/
def SzAns (left : Int) (len : Nat) (zs : List ByteArray) (w : World) (e : Ending) (w' : World) : Prop :=
  ∃ r : Int, e = .returned (.int .i64 r) ∧ Below w.heap.size w w' ∧ (r = -1 ∨ 0 ≤ r ∧ r + len ≤ left ∧ ∀ s ∈ zs.take len, (s.size : Int) ≤ left)
theorem take_snoc_mem {zs : List ByteArray} {k : Nat} {left : Int} (h : ∀ s ∈ zs.take k, (s.size : Int) ≤ left) (hk : k < zs.length) (h1 : ((zs.getD k ByteArray.empty).size : Int) ≤ left) : ∀ s ∈ zs.take (k + 1), (s.size : Int) ≤ left := by
  intro s hs
  rw [List.take_succ_eq_append_getElem hk, List.mem_append, List.mem_singleton] at hs
  rcases hs with hs | hs
  · exact h s hs
  · subst hs
    rw [List.getD_eq_getElem?_getD, List.getElem?_eq_getElem hk] at h1
    exact h1

def cpkS (zs : List ByteArray) (len k : Nat) : List ByteArray := zs.take k ++ List.replicate (len - k) ⟨#[]⟩
theorem cpkS_zero (zs : List ByteArray) (len : Nat) : cpkS zs len 0 = List.replicate len ⟨#[]⟩ := by simp [cpkS]
theorem cpkS_len (zs : List ByteArray) (len k : Nat) (h : k ≤ len) (h2 : len ≤ zs.length) : (cpkS zs len k).length = len := by simp [cpkS]; omega
theorem cpkS_step (zs : List ByteArray) (len k : Nat) (h : k < len) (h2 : len ≤ zs.length) : ((cpkS zs len k).map Value.string).set k (.string (zs.getD k ByteArray.empty)) = (cpkS zs len (k + 1)).map Value.string := by
  apply List.ext_getElem
  · simp [cpkS]; omega
  · intro i h3 h4
    simp only [List.getElem_set, List.getElem_map]
    have hk : (zs.take k).length = k := by simp; omega
    have hk1 : (zs.take (k + 1)).length = k + 1 := by simp; omega
    by_cases e : k = i
    · subst e
      rw [if_pos rfl]
      congr 1
      unfold cpkS
      rw [List.getElem_append_left (by omega), List.getElem_take]
      simp [List.getD_eq_getElem?_getD, List.getElem?_eq_getElem (show k < zs.length by omega)]
    · rw [if_neg e]
      congr 1
      unfold cpkS
      simp only [List.getElem_append, hk, hk1]
      by_cases h5 : i < k
      · rw [dif_pos h5, dif_pos (by omega)]
        simp
      · rw [dif_neg h5, dif_neg (by omega)]
        simp
theorem cpkS_end (zs : List ByteArray) (len : Nat) : cpkS zs len len = zs.take len := by simp [cpkS]

theorem ownS_value {w : World} {B : Nat} {v : Value} {L : List ByteArray} (h : OwnS w B v L) : ∃ a c, v = .slice a L.length c := by
  rcases own_forms h with ⟨rfl, h0, _⟩ | ⟨g, cap, hv, _⟩
  · exact ⟨none, 0, by rw [h0]⟩
  · exact ⟨_, cap, hv⟩

set_option maxRecDepth 100000 in
theorem eqM_yes (B1 B2 : Nat) (v1 v2 : Value) (L : List ByteArray) (w : World) (h1 : OwnS w B1 v1 L) (h2 : OwnS w B2 v2 L) :
    Calls Try.prog 58 #[.agg #[v1], .agg #[v2]] w fun e w' => e = .returned (.bool true) ∧ Below w.heap.size w w' := by
  have H1 := Lib.hid h1
  have H2 := Lib.hid h2
  clear h1 h2
  go_enter Try.func58, Try.ntmps58
  go_wp2_with fail
  have B2' : Below w.heap.size w ((w.alloc (.cells #[v1] 24)).alloc (.cells #[v2] 24)) := (Below.new _ _).alloc (by simp) _
  refine (eqS_yes _ _ v1 v2 L _ (H1.out.below B2') (H2.out.below B2')).mono ?_
  rintro e w1 ⟨rfl, b1⟩
  go_wp2_with fail
  go_ret
  exact ⟨rfl, B2'.then b1⟩

set_option maxRecDepth 100000 in
theorem markM (B : Nat) (v : Value) (L : List ByteArray) (m : Int) (w : World) (h : OwnS w B v L) (m0 : 0 < m) (m1 : m ≤ 1100000) (hl : L.length ≤ 1100000) :
    Calls Try.prog 59 #[.agg #[v], .int .i64 m] w fun e w' => e = .returned (.int .i64 (m + L.length)) ∧ OwnS w' B v (marksS m.toNat L.length) ∧ w.grownBy w' v.ownBlock := by
  obtain ⟨k, rfl⟩ := Int.eq_ofNat_of_zero_le (show 0 ≤ m by omega)
  have H := Lib.hid h
  clear h
  go_enter Try.func59, Try.ntmps59
  go_wp2_with fail
  refine (markS _ v L k _ (H.out.below (Below.new _ _)) (by omega) (by omega) hl).mono ?_
  rintro e w1 ⟨rfl, o1, g1⟩
  have g2 := (World.grownBy_alloc w (.cells #[v] 24) v.ownBlock).trans g1
  have G2 := Lib.hid g2
  have O1 := Lib.hid o1
  clear g1 g2 o1
  go_wp2_with fail
  go_ret
  exact ⟨rfl, O1.out, G2.out⟩

set_option maxRecDepth 100000 in
theorem heldM (B : Nat) (v : Value) (n : Nat) (m : Nat) (w : World) (h : OwnS w B v (marksS m n)) (m0 : 0 < m) (m1 : m ≤ 1100000) (hl : n ≤ 1100000) :
    Calls Try.prog 60 #[.agg #[v], .int .i64 (m : Int)] w fun e w' => e = .returned (.int .i64 ((m : Int) + n)) ∧ Below w.heap.size w w' := by
  have H := Lib.hid h
  clear h
  go_enter Try.func60, Try.ntmps60
  go_wp2_with fail
  refine (heldS _ v n m _ (H.out.below (Below.new _ _)) m0 m1 hl).mono ?_
  rintro e w1 ⟨rfl, b1⟩
  have hz : ¬ ((m : Int) + n < 0) := by omega
  have B1 := (Below.new _ _).then b1
  have HB := Lib.hid B1
  clear b1 B1
  go_wp2_with fail
  go_ret
  exact ⟨rfl, HB.out⟩

theorem tot_take {len : Nat} {zs : List ByteArray} (hl : len ≤ 1048576) (h : ∀ s ∈ zs.take len, s.size ≤ 1048576) : ((zs.take len).map lts).length ≤ 1048576 ∧ ∀ j (hj : j < ((zs.take len).map lts).length), (((zs.take len).map lts)[j]'hj).length ≤ 1048576 := by
  refine ⟨by simp; omega, fun j hj => ?_⟩
  rw [List.getElem_map, lt_len]
  exact h _ (List.getElem_mem _)
/-- A list of texts that can be looked through. -/
def Tot (I : List (List UInt8)) : Prop := I.length ≤ 1048576 ∧ ∀ j (hj : j < I.length), (I[j]'hj).length ≤ 1048576
theorem tot_of {len : Nat} {zs : List ByteArray} (hl : len ≤ 1048576) (h : ∀ s ∈ zs.take len, s.size ≤ 1048576) : Tot ((zs.take len).map lts) := tot_take hl h
theorem take_lts_le (len : Nat) (zs : List ByteArray) : ((zs.take len).map lts).length ≤ len := by simp; omega
end Go.Proofs.Ytfipbnognjepkaa
