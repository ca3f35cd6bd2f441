/- Plain facts: words of slopes back to their numbers, cuts, standard words. -/
import Derived.Test.YtddfdciohnabbaaStpPlain
import Derived.Test.YtddfdciohnabbaaPerPlain
import Derived.Test.YtddfdciohnabbaaMorPlain
import Derived.Test.YtddfdciohnabbaaPowPlain
namespace Go.Proofs.Ytddfdciohnabbaa
set_option linter.unusedVariables false
set_option linter.unusedSimpArgs false
open Go.RowKit

/-- A word of the letters a and b. -/
def Two (x : ByteArray) : Prop := IsW x ∧ Few 2 x
instance (x : ByteArray) : Decidable (Two x) := by unfold Two; exact inferInstance
def ab (l : List UInt8) : Prop := ∀ c ∈ l, c = 97 ∨ c = 98
theorem Two.ab {x : ByteArray} (h : Two x) : ab (bl x) := by
  intro c hc
  obtain ⟨i, hi, rfl⟩ := List.getElem_of_mem hc
  have hi' : i < x.size := hi
  have h1 := h.1.lo i hi'
  have h2 := h.2 i hi'
  have h3 : (bl x)[i]'hi = x[i]'hi' := rfl
  rw [h3]
  rcases (show (x[i]'hi').toNat = 97 ∨ (x[i]'hi').toNat = 98 by omega) with e | e
  · exact .inl (UInt8.toNat_inj.1 e)
  · exact .inr (UInt8.toNat_inj.1 e)
def cA (l : List UInt8) : Nat := l.count 97
def cB (l : List UInt8) : Nat := l.count 98
theorem cA_le (l : List UInt8) : cA l ≤ l.length := List.count_le_length
theorem cB_le (l : List UInt8) : cB l ≤ l.length := List.count_le_length
theorem cA_snoc (l : List UInt8) (c : UInt8) : cA (l ++ [c]) = cA l + if c = 97 then 1 else 0 := by
  unfold cA
  rw [List.count_append, List.count_singleton]
  congr 1
  by_cases h : c = 97 <;> simp [h]
theorem cB_snoc (l : List UInt8) (c : UInt8) : cB (l ++ [c]) = cB l + if c = 98 then 1 else 0 := by
  unfold cB
  rw [List.count_append, List.count_singleton]
  congr 1
  by_cases h : c = 98 <;> simp [h]
theorem cAB : ∀ {l : List UInt8}, ab l → cA l + cB l = l.length
  | [], _ => rfl
  | c :: l, h => by
    have ih := cAB (l := l) (fun x hx => h x (List.mem_cons_of_mem _ hx))
    unfold cA cB at *
    rw [List.count_cons, List.count_cons, List.length_cons]
    rcases h c (List.mem_cons_self ..) with e | e
    · subst e; simp; omega
    · subst e; simp; omega
theorem ab_take {l : List UInt8} (h : ab l) (k : Nat) : ab (l.take k) := fun c hc => h c (List.mem_of_mem_take hc)
theorem ab_drop {l : List UInt8} (h : ab l) (k : Nat) : ab (l.drop k) := fun c hc => h c (List.mem_of_mem_drop hc)
/-- A word of two numbers. -/
def slW (l : List UInt8) : Prop := Nat.gcd (cA l) (cB l) = 1 ∧ l = sloW (cA l) (cB l)
instance (l : List UInt8) : Decidable (slW l) := by unfold slW; exact inferInstance
def sowR (x : ByteArray) : Int × Int × Int := if ¬ Two x then (0, 0, 1) else if slW (bl x) then ((cA (bl x) : Int), (cB (bl x) : Int), 0) else (0, 0, 5)
theorem sowR_bad {x : ByteArray} (h : ¬ Two x) : sowR x = (0, 0, 1) := if_pos h
theorem sowR_no {x : ByteArray} (h : Two x) (k : ¬ slW (bl x)) : sowR x = (0, 0, 5) := by unfold sowR; rw [if_neg (not_not_intro h), if_neg k]
theorem sowR_ok {x : ByteArray} (h : Two x) (k : slW (bl x)) : sowR x = ((cA (bl x) : Int), (cB (bl x) : Int), 0) := by unfold sowR; rw [if_neg (not_not_intro h), if_pos k]

/-- The first cut from a place on. -/
def isCut (l : List UInt8) (i : Nat) : Prop := slW (l.take i) ∧ slW (l.drop i)
instance (l : List UInt8) (i : Nat) : Decidable (isCut l i) := by unfold isCut; exact inferInstance
def cutF (l : List UInt8) : Nat → Nat → Option Nat
  | 0, _ => none
  | f + 1, i => if isCut l i then some i else cutF l f (i + 1)
def cutG (l : List UInt8) (i : Nat) : Option Nat := cutF l (l.length - i) i
theorem cutG_end {l : List UInt8} {i : Nat} (h : l.length ≤ i) : cutG l i = none := by unfold cutG; rw [show l.length - i = 0 by omega]; rfl
theorem cutG_yes {l : List UInt8} {i : Nat} (h : i < l.length) (k : isCut l i) : cutG l i = some i := by
  unfold cutG
  obtain ⟨f, hf⟩ : ∃ f, l.length - i = f + 1 := ⟨l.length - i - 1, by omega⟩
  rw [hf]
  unfold cutF
  rw [if_pos k]
theorem cutG_no {l : List UInt8} {i : Nat} (h : i < l.length) (k : ¬ isCut l i) : cutG l i = cutG l (i + 1) := by
  unfold cutG
  obtain ⟨f, hf⟩ : ∃ f, l.length - i = f + 1 := ⟨l.length - i - 1, by omega⟩
  rw [hf, show l.length - (i + 1) = f by omega]
  conv => lhs; unfold cutF
  rw [if_neg k]
def cutR (x : ByteArray) : ByteArray × ByteArray × Int := if ¬ Two x then (tE, tE, 1) else if slW (bl x) then (match cutG (bl x) 1 with | some k => (x.extract 0 k, x.extract k x.size, 0) | none => (tE, tE, 5)) else (tE, tE, 5)
theorem cutR_bad {x : ByteArray} (h : ¬ Two x) : cutR x = (tE, tE, 1) := if_pos h
theorem cutR_no {x : ByteArray} (h : Two x) (k : ¬ slW (bl x)) : cutR x = (tE, tE, 5) := by unfold cutR; rw [if_neg (not_not_intro h), if_neg k]
theorem cutR_none {x : ByteArray} (h : Two x) (k : slW (bl x)) (n : cutG (bl x) 1 = none) : cutR x = (tE, tE, 5) := by unfold cutR; rw [if_neg (not_not_intro h), if_pos k, n]
theorem cutR_some {x : ByteArray} (h : Two x) (k : slW (bl x)) {i : Nat} (n : cutG (bl x) 1 = some i) : cutR x = (x.extract 0 i, x.extract i x.size, 0) := by unfold cutR; rw [if_neg (not_not_intro h), if_pos k, n]

/-- Standard words. -/
def stdN (now before : ByteArray) (d : Nat) : ByteArray := pow now d ++ before
theorem stdN_size (now before : ByteArray) (d : Nat) : (stdN now before d).size = now.size * d + before.size := by
  unfold stdN; rw [ByteArray.size_append, pow_size]
def stdF : List Int → ByteArray → ByteArray → Option ByteArray
  | [], now, _ => some now
  | d :: L, now, before => if 60 < (stdN now before d.toNat).size then none else stdF L (stdN now before d.toNat) now
def okSt (L : List Int) : Prop := L.length ≤ 20 ∧ ∀ j (h : j < L.length), (min j 1 : Nat) ≤ L[j]'h ∧ L[j]'h ≤ 60
instance (L : List Int) : Decidable (okSt L) := by unfold okSt; exact inferInstance
def okStTo (L : List Int) (k : Nat) : Prop := ∀ j (h : j < L.length), j < k → (min j 1 : Nat) ≤ L[j]'h ∧ L[j]'h ≤ 60
theorem okStTo.zero (L : List Int) : okStTo L 0 := fun _ _ h => by omega
theorem okStTo.succ {L : List Int} {k : Nat} (h : okStTo L k) (hk : k < L.length) (h1 : (min k 1 : Nat) ≤ L[k]'hk) (h2 : L[k]'hk ≤ 60) : okStTo L (k + 1) := by
  intro i hi hik
  by_cases e : i = k
  · subst e; exact ⟨h1, h2⟩
  · exact h i hi (by omega)
theorem okStTo.whole {L : List Int} {k : Nat} (h : okStTo L k) (hk : L.length ≤ k) (h20 : L.length ≤ 20) : okSt L := ⟨h20, fun i hi => h i hi (by omega)⟩
def letA : ByteArray := ⟨#[97]⟩
def letC : ByteArray := ⟨#[98]⟩
def stR (L : List Int) : ByteArray × Int := if ¬ okSt L then (tE, 2) else match stdF L letA letC with | some x => (x, 0) | none => (tE, 3)
theorem stR_bad {L : List Int} (h : ¬ okSt L) : stR L = (tE, 2) := if_pos h
theorem stR_none {L : List Int} (h : okSt L) (k : stdF L letA letC = none) : stR L = (tE, 3) := by unfold stR; rw [if_neg (not_not_intro h), k]
theorem stR_some {L : List Int} (h : okSt L) {x : ByteArray} (k : stdF L letA letC = some x) : stR L = (x, 0) := by unfold stR; rw [if_neg (not_not_intro h), k]
theorem stdF_drop {L : List Int} {k : Nat} (h : k < L.length) (now before : ByteArray) : stdF (L.drop k) now before = if 60 < (stdN now before (L[k]'h).toNat).size then none else stdF (L.drop (k + 1)) (stdN now before (L[k]'h).toNat) now := by
  rw [List.drop_eq_getElem_cons h]
  rfl
theorem stdF_end {L : List Int} {k : Nat} (h : L.length ≤ k) (now before : ByteArray) : stdF (L.drop k) now before = some now := by
  rw [List.drop_eq_nil_of_le h]
  rfl

end Go.Proofs.Ytddfdciohnabbaa
