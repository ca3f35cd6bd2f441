/- Plain facts: the first square free word whose image has a square. -/
import Derived.Test.YtolboinemechpabLensPlain
import Derived.Test.YtolboinemechpabDfsPlain
import Derived.Test.YtolboinemechpabMorPlain
namespace Go.Proofs.Ytolboinemechpab
set_option linter.unusedVariables false
set_option linter.unusedSimpArgs false
open Go.RowKit

/-- The image of a word has a square. -/
def hasQ (I : List (List UInt8)) (s : List UInt8) : Bool := decide (¬ (fs (imgOf I s)).2 = 0)
/-- The first word of a list whose image has one. -/
def fmW (I : List (List UInt8)) (L : List (List UInt8)) : Option (List UInt8) := L.find? (hasQ I)
theorem fmW_nil (I : List (List UInt8)) : fmW I [] = none := rfl
theorem fmW_app_some {I : List (List UInt8)} {A : List (List UInt8)} (B : List (List UInt8)) {s : List UInt8} (h : fmW I A = some s) : fmW I (A ++ B) = some s := by
  unfold fmW at h ⊢
  rw [List.find?_append, h]
  rfl
theorem fmW_app_none {I : List (List UInt8)} {A : List (List UInt8)} (B : List (List UInt8)) (h : fmW I A = none) : fmW I (A ++ B) = fmW I B := by
  unfold fmW at h ⊢
  rw [List.find?_append, h]
  rfl
theorem fmW_one_yes {I : List (List UInt8)} {s : List UInt8} (h : hasQ I s = true) : fmW I [s] = some s := by unfold fmW; simp [h]
theorem fmW_one_no {I : List (List UInt8)} {s : List UInt8} (h : hasQ I s = false) : fmW I [s] = none := by unfold fmW; simp [h]
/-- The first one of so many lengths, from n on. -/
def fmN (I : List (List UInt8)) (k : Nat) : Nat → Nat → Option (List UInt8)
  | 0, _ => none
  | f + 1, n => match fmW I (dfs k n []) with
    | some s => some s
    | none => fmN I k f (n + 1)
theorem fmN_hit {I : List (List UInt8)} {k f n : Nat} {s : List UInt8} (h : fmW I (dfs k n []) = some s) : fmN I k (f + 1) n = some s := by rw [fmN, h]
theorem fmN_miss {I : List (List UInt8)} {k f n : Nat} (h : fmW I (dfs k n []) = none) : fmN I k (f + 1) n = fmN I k f (n + 1) := by rw [fmN, h]
theorem fmW_zero (I : List (List UInt8)) (k : Nat) : fmW I (dfs k 0 []) = none := by
  rw [dfs]
  apply fmW_one_no
  unfold hasQ
  rw [decide_eq_false_iff_not, Decidable.not_not]
  have : imgOf I [] = [] := rfl
  rw [this]
  decide
theorem fm_hit {I : List (List UInt8)} {D : List UInt8 → List (List UInt8)} {l : List UInt8} {c g : Nat} {s : List UInt8} (h : sa (l ++ [letB (c : Int)]) (l.length + 1) = 0) (e : fmW I (D (l ++ [letB (c : Int)])) = some s) : fmW I (kids D l c (g + 1)) = some s := by
  rw [kids_hit h]
  exact fmW_app_some _ e
theorem fm_on {I : List (List UInt8)} {D : List UInt8 → List (List UInt8)} {l : List UInt8} {c g : Nat} (h : sa (l ++ [letB (c : Int)]) (l.length + 1) = 0) (e : fmW I (D (l ++ [letB (c : Int)])) = none) : fmW I (kids D l c (g + 1)) = fmW I (kids D l (c + 1) g) := by
  rw [kids_hit h]
  exact fmW_app_none _ e
theorem fm_miss {I : List (List UInt8)} {D : List UInt8 → List (List UInt8)} {l : List UInt8} {c g : Nat} (h : ¬ sa (l ++ [letB (c : Int)]) (l.length + 1) = 0) : fmW I (kids D l c (g + 1)) = fmW I (kids D l (c + 1) g) := by rw [kids_miss h]
def lT (I : List (List UInt8)) : Nat := tlN (mnL I (I.length - 1)) (mxL I (I.length - 1))
def makR (I : List (List UInt8)) : ByteArray × Int :=
  if ¬ Mor I then (tE, 1) else if lT I = 0 then (tE, 5) else if 5 < lT I then (tE, 3) else match fmN I I.length (lT I) 1 with
  | none => (tE, 4)
  | some s => (bt s, 0)
theorem makR_bad {I : List (List UInt8)} (h : ¬ Mor I) : makR I = (⟨#[]⟩, 1) := if_pos h
theorem makR_zero {I : List (List UInt8)} (h : Mor I) (h2 : lT I = 0) : makR I = (⟨#[]⟩, 5) := by unfold makR; rw [if_neg (not_not_intro h), if_pos h2]; rfl
theorem makR_long {I : List (List UInt8)} (h : Mor I) (h2 : ¬ lT I = 0) (h3 : 5 < lT I) : makR I = (⟨#[]⟩, 3) := by unfold makR; rw [if_neg (not_not_intro h), if_neg h2, if_pos h3]; rfl
theorem makR_none {I : List (List UInt8)} (h : Mor I) (h2 : ¬ lT I = 0) (h3 : ¬ 5 < lT I) (e : fmN I I.length (lT I) 1 = none) : makR I = (⟨#[]⟩, 4) := by unfold makR; rw [if_neg (not_not_intro h), if_neg h2, if_neg h3, e]; rfl
theorem makR_some {I : List (List UInt8)} (h : Mor I) (h2 : ¬ lT I = 0) (h3 : ¬ 5 < lT I) {s : List UInt8} (e : fmN I I.length (lT I) 1 = some s) : makR I = (bt s, 0) := by unfold makR; rw [if_neg (not_not_intro h), if_neg h2, if_neg h3, e]
theorem img_len {I : List (List UInt8)} (g : Mor I) : ∀ {s : List UInt8}, lets I s → (imgOf I s).length ≤ 12 * s.length
  | [], _ => Nat.le_refl _
  | c :: s, h => by
    have h1 := img_len g (s := s) fun x hx => h x (List.mem_cons_of_mem _ hx)
    have e : imgOf I (c :: s) = img I c ++ imgOf I s := rfl
    have h2 : (img I c).length ≤ 12 := by
      have hc := (h c (List.mem_cons_self ..)).2
      have := (g.im (c.toNat - 97) hc).1
      rw [bt_size] at this
      unfold img
      rw [List.getD_eq_getElem?_getD, List.getElem?_eq_getElem hc]
      exact this
    rw [e, List.length_append, List.length_cons]
    omega
/-- The words have letters of the morphism alone. -/
theorem kids_lets {I : List (List UInt8)} {D : List UInt8 → List (List UInt8)} {l : List UInt8} (hl : lets I l) (h5 : I.length ≤ 5) (hD : ∀ m, lets I m → ∀ s ∈ D m, lets I s) : ∀ (g c : Nat), c + g ≤ I.length → ∀ s ∈ kids D l c g, lets I s
  | 0, c, _, s, h => (by rw [kids] at h; cases h)
  | g + 1, c, hc, s, h => by
    by_cases e : sa (l ++ [letB (c : Int)]) (l.length + 1) = 0
    · rw [kids_hit e, List.mem_append] at h
      rcases h with h | h
      · refine hD _ (fun x hx => ?_) s h
        rcases List.mem_append.1 hx with hx | hx
        · exact hl x hx
        · rw [List.mem_singleton] at hx
          have := letB_nat (n := (c : Int)) (by omega) (by omega)
          subst hx
          omega
      · exact kids_lets hl h5 hD g (c + 1) (by omega) s h
    · rw [kids_miss e] at h
      exact kids_lets hl h5 hD g (c + 1) (by omega) s h
theorem dfs_lets {I : List (List UInt8)} (h5 : I.length ≤ 5) : ∀ (f : Nat) (l : List UInt8), lets I l → ∀ s ∈ dfs I.length f l, lets I s
  | 0, l, hl, s, h => by rw [dfs, List.mem_singleton] at h; subst h; exact hl
  | f + 1, l, hl, s, h => by
    rw [dfs] at h
    exact kids_lets hl h5 (dfs_lets h5 f) I.length 0 (by omega) s h
end Go.Proofs.Ytolboinemechpab
