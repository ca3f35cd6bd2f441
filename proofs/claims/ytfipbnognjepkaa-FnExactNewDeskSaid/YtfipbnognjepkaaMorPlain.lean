/- Plain facts: morphisms, images, iterates. -/
import Derived.Test.YtfipbnognjepkaaNamedPlain
import Derived.Test.YtfipbnognjepkaaCtPlain
namespace Go.Proofs.Ytfipbnognjepkaa
set_option linter.unusedVariables false
set_option linter.unusedSimpArgs false
open Go.RowKit

/-- The letters of a text. -/
def lts (x : ByteArray) : List UInt8 := x.data.toList
theorem bt_lt (x : ByteArray) : bt (lts x) = x := by cases x; simp [bt, lts]
theorem lt_bt (l : List UInt8) : lts (bt l) = l := by simp [bt, lts]
theorem lt_len (x : ByteArray) : (lts x).length = x.size := by cases x; simp [lts, ByteArray.size]
theorem map_bt_lt (L : List ByteArray) : (L.map lts).map bt = L := by
  rw [List.map_map]
  conv => rhs; rw [← List.map_id L]
  exact List.map_congr_left fun x _ => bt_lt x
theorem bt_get (l : List UInt8) (i : Nat) (h : i < l.length) : (bt l)[i]'(by rw [bt_size]; exact h) = l[i]'h := rfl

/-- A text has the first m letters alone, as far as k. -/
def Few (m : Nat) (s : ByteArray) : Prop := ∀ i (h : i < s.size), (s[i]'h).toNat < 97 + m
instance (m : Nat) (s : ByteArray) : Decidable (Few m s) := by unfold Few; exact inferInstance
def FewTo (m : Nat) (s : ByteArray) (k : Nat) : Prop := ∀ i (h : i < s.size), i < k → (s[i]'h).toNat < 97 + m
theorem FewTo.zero (m : Nat) (s : ByteArray) : FewTo m s 0 := fun _ _ h => by omega
theorem FewTo.succ {m : Nat} {s : ByteArray} {k : Nat} (h : FewTo m s k) (hk : k < s.size) (h1 : (s[k]'hk).toNat < 97 + m) : FewTo m s (k + 1) := by
  intro i hi hik
  by_cases e : i = k
  · subst e; exact h1
  · exact h i hi (by omega)
theorem FewTo.whole {m : Nat} {s : ByteArray} {k : Nat} (h : FewTo m s k) (hk : s.size ≤ k) : Few m s := fun i hi => h i hi (by omega)

/-- An image of a morphism with m Images. -/
def okIm (m : Nat) (s : ByteArray) : Prop := s.size ≤ 12 ∧ IsW s ∧ Few m s
instance (m : Nat) (s : ByteArray) : Decidable (okIm m s) := by unfold okIm; exact inferInstance
def Mor (I : List (List UInt8)) : Prop := 1 ≤ I.length ∧ I.length ≤ 5 ∧ ∀ j (h : j < I.length), okIm I.length (bt (I[j]'h))
instance (I : List (List UInt8)) : Decidable (Mor I) := by unfold Mor; exact inferInstance
def MorTo (I : List (List UInt8)) (k : Nat) : Prop := ∀ j (h : j < I.length), j < k → okIm I.length (bt (I[j]'h))
theorem MorTo.zero (I : List (List UInt8)) : MorTo I 0 := fun _ _ h => by omega
theorem MorTo.succ {I : List (List UInt8)} {k : Nat} (h : MorTo I k) (hk : k < I.length) (h1 : okIm I.length (bt (I[k]'hk))) : MorTo I (k + 1) := by
  intro i hi hik
  by_cases e : i = k
  · subst e; exact h1
  · exact h i hi (by omega)
theorem MorTo.whole {I : List (List UInt8)} {k : Nat} (h : MorTo I k) (hk : I.length ≤ k) (h1 : 1 ≤ I.length) (h5 : I.length ≤ 5) : Mor I := ⟨h1, h5, fun j hj => h j hj (by omega)⟩
theorem Mor.len1 {I : List (List UInt8)} (h : Mor I) : 1 ≤ I.length := h.1
theorem Mor.len5 {I : List (List UInt8)} (h : Mor I) : I.length ≤ 5 := h.2.1
theorem Mor.im {I : List (List UInt8)} (h : Mor I) (j : Nat) (hj : j < I.length) : okIm I.length (bt (I[j]'hj)) := h.2.2 j hj

theorem lets_of {I : List (List UInt8)} {x : ByteArray} (h : IsW x) (hf : Few I.length x) : lets I (lts x) := by
  intro c hc
  obtain ⟨i, hi, rfl⟩ := List.getElem_of_mem hc
  have h1 : i < x.size := by rw [← lt_len]; exact hi
  have e : (lts x)[i]'hi = x[i]'h1 := rfl
  rw [e]
  have := h.lo i h1
  have := hf i h1
  omega
theorem Mor.mem {I : List (List UInt8)} (h : Mor I) {s : List UInt8} (hs : s ∈ I) : s.length ≤ 12 ∧ lets I s := by
  obtain ⟨j, hj, rfl⟩ := List.getElem_of_mem hs
  obtain ⟨h1, h2, h3⟩ := h.im j hj
  exact ⟨h1, by have := lets_of h2 h3; rwa [lt_bt] at this⟩
theorem Mor.img {I : List (List UInt8)} (h : Mor I) {c : UInt8} (hc : c.toNat - 97 < I.length) : (img I c).length ≤ 12 ∧ lets I (img I c) := h.mem (img_mem hc)

/-- The image of a word. -/
def imgOf (I : List (List UInt8)) (l : List UInt8) : List UInt8 := l.flatMap (img I)
theorem imgOf_nil (I : List (List UInt8)) : imgOf I [] = [] := rfl
theorem imgOf_app (I : List (List UInt8)) (a b : List UInt8) : imgOf I (a ++ b) = imgOf I a ++ imgOf I b := List.flatMap_append
theorem imgOf_take (I : List (List UInt8)) (l : List UInt8) (i : Nat) (h : i < l.length) : imgOf I (l.take (i + 1)) = imgOf I (l.take i) ++ img I (l[i]'h) := flat_take l i h
theorem imgOf_lets {I : List (List UInt8)} (g : Mor I) {l : List UInt8} (h : lets I l) : lets I (imgOf I l) := by
  intro c hc
  rw [imgOf, List.mem_flatMap] at hc
  obtain ⟨x, hx, hc⟩ := hc
  exact (g.img (h x hx).2).2 c hc
theorem imgOf_len {I : List (List UInt8)} (g : Mor I) : ∀ {l : List UInt8}, lets I l → (imgOf I l).length ≤ 12 * l.length
  | [], _ => by simp [imgOf]
  | c :: l, h => by
    have h1 := imgOf_len g (l := l) (fun x hx => h x (List.mem_cons_of_mem _ hx))
    have h2 := (g.img (h c (List.mem_cons_self ..)).2).1
    have e : imgOf I (c :: l) = img I c ++ imgOf I l := rfl
    rw [e, List.length_append, List.length_cons]
    omega
theorem imgOf_take_len (I : List (List UInt8)) (l : List UInt8) (i : Nat) : (imgOf I (l.take i)).length ≤ (imgOf I l).length := by
  conv => rhs; rw [← List.take_append_drop i l, imgOf_app]
  rw [List.length_append]; omega
theorem lets_take {I : List (List UInt8)} {l : List UInt8} (h : lets I l) (k : Nat) : lets I (l.take k) := fun c hc => h c (List.mem_of_mem_take hc)
theorem lets_word {I : List (List UInt8)} {l : List UInt8} (h : lets I l) (h5 : I.length ≤ 5) (hl : l.length ≤ 60) : IsW (bt l) ∧ Few I.length (bt l) := by
  refine ⟨⟨hl, fun i hi => ?_⟩, fun i hi => ?_⟩
  all_goals
    have e : (bt l)[i]'hi = l[i]'hi := bt_get l i hi
    rw [e]
    have := h _ (List.getElem_mem (l := l) (n := i) hi)
    omega

/-- The iterate of l and k, if no one on the way is too long. -/
def itr (I : List (List UInt8)) : Nat → List UInt8 → Option (List UInt8)
  | 0, l => some l
  | k + 1, l => if 60 < (imgOf I l).length then none else itr I k (imgOf I l)
theorem itr_zero (I : List (List UInt8)) (l : List UInt8) : itr I 0 l = some l := rfl
theorem itr_long {I : List (List UInt8)} {k : Nat} {l : List UInt8} (h : 60 < (imgOf I l).length) : itr I (k + 1) l = none := by rw [itr, if_pos h]
theorem itr_step {I : List (List UInt8)} {k : Nat} {l : List UInt8} (h : ¬ 60 < (imgOf I l).length) : itr I (k + 1) l = itr I k (imgOf I l) := by rw [itr, if_neg h]
theorem itr_one {I : List (List UInt8)} {l : List UInt8} (h : ¬ 60 < (imgOf I l).length) : itr I 1 l = some (imgOf I l) := by rw [itr_step h, itr_zero]

def iterR (I : List (List UInt8)) (x : ByteArray) (k : Int) : ByteArray × Int :=
  if ¬ (Mor I ∧ IsW x) then (tE, 1) else if ¬ Few I.length x ∨ k < 0 ∨ 100 < k then (tE, 2) else match itr I k.toNat (lts x) with
  | none => (tE, 3)
  | some l => (bt l, 0)
theorem iterR_bad {I : List (List UInt8)} {x : ByteArray} {k : Int} (h : ¬ (Mor I ∧ IsW x)) : iterR I x k = (⟨#[]⟩, 1) := if_pos h
theorem iterR_out {I : List (List UInt8)} {x : ByteArray} {k : Int} (h : Mor I ∧ IsW x) (hf : ¬ Few I.length x ∨ k < 0 ∨ 100 < k) : iterR I x k = (⟨#[]⟩, 2) := by
  unfold iterR; rw [if_neg (not_not_intro h), if_pos hf]; rfl
theorem iterR_none {I : List (List UInt8)} {x : ByteArray} {k : Nat} (h : Mor I ∧ IsW x) (hf : Few I.length x) (hk : k ≤ 100) (hi : itr I k (lts x) = none) : iterR I x (k : Int) = (⟨#[]⟩, 3) := by
  unfold iterR; rw [if_neg (not_not_intro h), if_neg (by rintro (h | h | h); exact h hf; omega; omega), Int.toNat_natCast, hi]; rfl
theorem iterR_some {I : List (List UInt8)} {x : ByteArray} {k : Nat} {l : List UInt8} (h : Mor I ∧ IsW x) (hf : Few I.length x) (hk : k ≤ 100) (hi : itr I k (lts x) = some l) : iterR I x (k : Int) = (bt l, 0) := by
  unfold iterR; rw [if_neg (not_not_intro h), if_neg (by rintro (h | h | h); exact h hf; omega; omega), Int.toNat_natCast, hi]

/-- The code of a morphism and a word of its letters. -/
def mwC (I : List (List UInt8)) (x : ByteArray) : Int := if ¬ (Mor I ∧ IsW x) then 1 else if ¬ Few I.length x then 2 else 0
theorem mwC_bad {I : List (List UInt8)} {x : ByteArray} (h : ¬ (Mor I ∧ IsW x)) : mwC I x = 1 := if_pos h
theorem mwC_out {I : List (List UInt8)} {x : ByteArray} (h : Mor I ∧ IsW x) (hf : ¬ Few I.length x) : mwC I x = 2 := by
  unfold mwC; rw [if_neg (not_not_intro h), if_pos hf]
theorem mwC_ok {I : List (List UInt8)} {x : ByteArray} (h : Mor I ∧ IsW x) (hf : Few I.length x) : mwC I x = 0 := by
  unfold mwC; rw [if_neg (not_not_intro h), if_neg (not_not_intro hf)]

end Go.Proofs.Ytfipbnognjepkaa
