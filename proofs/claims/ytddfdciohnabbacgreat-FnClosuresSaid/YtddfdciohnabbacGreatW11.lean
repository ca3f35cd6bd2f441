/- What the law on closures rests on: contracts and plain facts. -/
import Derived.Test.YtddfdciohnabbacGreatLyn
import Derived.Test.YtddfdciohnabbacGreatStrs
import Derived.Test.YtddfdciohnabbacGreatFactor
import Derived.Test.YtddfdciohnabbacGreatRich2Plain
import Derived.Lib.Index
import Derived.Test.YtddfdciohnabbacGreatFnPerPlain
import Derived.Test.YtddfdciohnabbacGreatClo
import Derived.Test.YtddfdciohnabbacGreatDir
import Derived.Test.YtddfdciohnabbacGreatFpPlain
import Derived.Test.YtddfdciohnabbacGreatRoot
import Derived.Test.YtddfdciohnabbacGreatWord
import Derived.Test.YtddfdciohnabbacGreatLib
import Derived.Test.YtddfdciohnabbacGreatDrawn
import Derived.Test.YtddfdciohnabbacGreatPlacesPlain
import Derived.Test.YtddfdciohnabbacGreatPalPlain
import Derived.Test.YtddfdciohnabbacGreatFactorsI
import Derived.Deep.LoopGhost
import Derived.Maps.AppendAt
import Derived.Test.YtddfdciohnabbacGreatInts
import Derived.Test.YtddfdciohnabbacGreatFactorsS
import Derived.Test.YtddfdciohnabbacGreatPut
import Derived.Test.YtddfdciohnabbacGreatPalEnd

/-! ### LynParts -/
namespace Go.Proofs.YtddfdciohnabbacGreat
set_option linter.unusedVariables false
set_option linter.unusedSimpArgs false
open Go.RowKit

def ofL (l : List UInt8) : ByteArray := ⟨l.toArray⟩
theorem bl_ofL (l : List UInt8) : bl (ofL l) = l := by simp [ofL, bl]
theorem ofL_bl (x : ByteArray) : ofL (bl x) = x := bl_inj (bl_ofL _)
noncomputable def partsB (x : ByteArray) : List ByteArray := (partsL (bl x)).map ofL
theorem partsB_nil {x : ByteArray} (h : x.size = 0) : partsB x = [] := by
  unfold partsB; rw [size_zero h]; rfl
theorem partsB_step {x : ByteArray} {i : Nat} (h : FirstLess (bl x) i) : partsB x = x.extract 0 i :: partsB (x.extract i x.size) := by
  unfold partsB
  rw [partsL_step h, List.map_cons, bl_drop, ← bl_take, ofL_bl]
theorem partsB_len (x : ByteArray) : (partsB x).length ≤ x.size := by
  unfold partsB; rw [List.length_map]; exact partsL_len _
theorem snoc_map_str (L : List ByteArray) (z : ByteArray) : L.map Value.string ++ [Value.string z] = (L ++ [z]).map Value.string := by rw [List.map_append]; rfl
theorem OwnS.lit0 (w : World) {B : Nat} (h : B ≤ w.heap.size) : OwnS (w.alloc (.cells #[] 9)) B (.slice (some ⟨w.heap.size, 0, none⟩) 0 0) [] := own_base (World.ownsRow_lit w #[] 0 (Nat.le_refl _) (by decide) (by simp)) h
noncomputable def lynPR (x : ByteArray) : List ByteArray × Int := if ¬ IsW x then ([], 1) else (partsB x, 0)
theorem lynPR_bad {x : ByteArray} (h : ¬ IsW x) : lynPR x = ([], 1) := if_pos h
theorem lynPR_ok {x : ByteArray} (h : IsW x) : lynPR x = (partsB x, 0) := by unfold lynPR; rw [if_neg (not_not_intro h)]
theorem lynPR_len (x : ByteArray) : (lynPR x).1.length ≤ 4096 := by
  by_cases h : IsW x
  · rw [lynPR_ok h]; have h1 := h.size; have h2 := partsB_len x; show (partsB x).length ≤ 4096; omega
  · rw [lynPR_bad h]; decide

end Go.Proofs.YtddfdciohnabbacGreat

/-! ### ClPlain -/
namespace Go.Proofs.YtddfdciohnabbacGreat
set_option linter.unusedVariables false
set_option linter.unusedSimpArgs false
open Classical

/-- The first b letters stand at no other place than at the beginning and at the end. -/
def Tw (l : List UInt8) (b : Nat) : Prop := ∀ i, 1 ≤ i → i + b < l.length → ¬ SA (at_ l) i 0 b
/-- A border of at least 1 of this kind. -/
def Cl (l : List UInt8) (b : Nat) : Prop := 1 ≤ b ∧ b < l.length ∧ Per l (l.length - b) ∧ Tw l b
theorem Cl.eq {l : List UInt8} {b : Nat} (h : Cl l b) : b = l.length - lp l := by
  obtain ⟨h1, h2, h3, h4⟩ := h
  have hne : l ≠ [] := fun e => by subst e; simp at h2
  obtain ⟨p0, p1, p2, _⟩ := lp_ok hne
  have hle := lp_le hne (by omega : 0 < l.length - b) h3
  refine Nat.le_antisymm (by omega) (Nat.le_of_not_lt fun hc => ?_)
  refine h4 (l.length - lp l - b) (by omega) (by omega) fun d hd => ?_
  have e1 := p2 (l.length - lp l - b + d) (by omega)
  have e2 := h3 (0 + d) (by omega)
  unfold at_
  rw [e1, e2]
  congr 1
  omega
theorem cl_lp {l : List UInt8} (hn : l ≠ []) (h : 0 < l.length - lp l) (ht : Tw l (l.length - lp l)) : Cl l (l.length - lp l) := by
  obtain ⟨p0, p1, p2, _⟩ := lp_ok hn
  exact ⟨h, by omega, by rw [show l.length - (l.length - lp l) = lp l by omega]; exact p2, ht⟩
/-- This border, 0 if there is none. -/
noncomputable def cb (l : List UInt8) : Nat := if ∃ b, Cl l b then l.length - lp l else 0
theorem cb_of {l : List UInt8} {b : Nat} (h : Cl l b) : cb l = b := by unfold cb; rw [if_pos ⟨b, h⟩, h.eq]
theorem cb_none {l : List UInt8} (h : ¬ ∃ b, Cl l b) : cb l = 0 := by unfold cb; rw [if_neg h]
theorem cb_some {l : List UInt8} (h : 0 < cb l) : Cl l (cb l) := by
  by_cases k : ∃ b, Cl l b
  · obtain ⟨b, hb⟩ := k
    rw [cb_of hb]; exact hb
  · rw [cb_none k] at h; omega
theorem cb_lt {l : List UInt8} (h : 0 < cb l) : cb l < l.length := (cb_some h).2.1
noncomputable def clB (l : List UInt8) : Bool := decide (l.length ≤ 1) || decide (0 < cb l)
noncomputable def prF : Nat → List UInt8 → Bool
  | 0, _ => true
  | f + 1, l => decide (l.length ≤ 1) || (decide (0 < cb l) && prF f (l.take (cb l)))
theorem prF_more : ∀ (f g : Nat) (l : List UInt8), l.length ≤ f → l.length ≤ g → prF f l = prF g l
  | 0, 0, _, _, _ => rfl
  | 0, g + 1, l, h, _ => by
    have : decide (l.length ≤ 1) = true := decide_eq_true (by omega)
    rw [prF, prF, this]; rfl
  | f + 1, 0, l, _, h => by
    have : decide (l.length ≤ 1) = true := decide_eq_true (by omega)
    rw [prF, prF, this]; rfl
  | f + 1, g + 1, l, h1, h2 => by
    rw [prF, prF]
    by_cases hc : 0 < cb l
    · have h3 := cb_lt hc
      rw [prF_more f g (l.take (cb l)) (by rw [List.length_take]; omega) (by rw [List.length_take]; omega)]
    · rw [decide_eq_false hc]; rfl
noncomputable def prB (l : List UInt8) : Bool := prF l.length l
theorem prB_short {l : List UInt8} (h : l.length ≤ 1) : prB l = true := by
  unfold prB
  rw [prF_more _ (l.length + 1) l (Nat.le_refl _) (by omega), prF, decide_eq_true h]; rfl
theorem prB_long {l : List UInt8} (h : ¬ l.length ≤ 1) (hc : 0 < cb l) : prB l = prB (l.take (cb l)) := by
  have h3 := cb_lt hc
  unfold prB
  rw [prF_more _ (l.length + 1) l (Nat.le_refl _) (by omega), prF, decide_eq_false h, decide_eq_true hc]
  simp only [Bool.false_or, Bool.true_and]
  exact prF_more _ _ _ (by rw [List.length_take]; omega) (Nat.le_refl _)
theorem prB_none {l : List UInt8} (h : ¬ l.length ≤ 1) (hc : ¬ 0 < cb l) : prB l = false := by
  unfold prB
  rw [prF_more _ (l.length + 1) l (Nat.le_refl _) (by omega), prF, decide_eq_false h, decide_eq_false hc]; rfl
theorem clB_short {l : List UInt8} (h : l.length ≤ 1) : clB l = true := by unfold clB; rw [decide_eq_true h]; rfl
theorem clB_long {l : List UInt8} (h : ¬ l.length ≤ 1) : clB l = decide (0 < cb l) := by unfold clB; rw [decide_eq_false h]; rfl
/-- Privileged words are closed. -/
theorem pr_cl {l : List UInt8} (h : prB l = true) : clB l = true := by
  by_cases h1 : l.length ≤ 1
  · exact clB_short h1
  · rw [clB_long h1]
    by_cases hc : 0 < cb l
    · exact decide_eq_true hc
    · rw [prB_none h1 hc] at h; cases h

/-! ### As the functions ask. -/
theorem sa_occ (l : List UInt8) (i b : Nat) (h : i + b ≤ l.length) : SA (at_ l) i 0 b ↔ (l.drop i).take b = l.take b := by
  constructor
  · intro h2
    apply List.ext_getElem?
    intro d
    by_cases hd : d < b
    · rw [List.getElem?_take_of_lt hd, List.getElem?_take_of_lt hd, List.getElem?_drop]
      have := h2 d hd
      rw [Nat.zero_add] at this
      exact this
    · rw [List.getElem?_eq_none (by rw [List.length_take]; omega), List.getElem?_eq_none (by rw [List.length_take]; omega)]
  · intro h2 d hd
    have : ((l.drop i).take b)[d]? = (l.take b)[d]? := by rw [h2]
    rw [List.getElem?_take_of_lt hd, List.getElem?_take_of_lt hd, List.getElem?_drop] at this
    rw [Nat.zero_add]
    exact this
theorem occ_iff (l : List UInt8) (i b : Nat) (h0 : 0 < b) (hb : b ≤ l.length) : Lib.occAt (l.drop 1) (l.take b) i = true ↔ 1 + i + b ≤ l.length ∧ SA (at_ l) (1 + i) 0 b := by
  have hl : (l.take b).length = b := by rw [List.length_take, Nat.min_eq_left hb]
  unfold Lib.occAt
  rw [List.isPrefixOf_iff_prefix, List.drop_drop]
  constructor
  · rintro h
    have h3 := h.length_le
    rw [hl, List.length_drop] at h3
    have h2 := List.prefix_iff_eq_take.1 h
    rw [hl] at h2
    exact ⟨by omega, (sa_occ l (1 + i) b (by omega)).2 h2.symm⟩
  · rintro ⟨h1, h2⟩
    rw [List.prefix_iff_eq_take, hl]
    exact ((sa_occ l (1 + i) b h1).1 h2).symm
theorem index_le (s sub : List UInt8) : ∀ i, i ≤ s.length → Lib.occAt s sub i = true → Lib.index s sub ≤ i := by
  intro i
  induction i using Nat.strongRecOn with
  | ind i ih =>
    intro hi h
    by_cases k : ∃ j, j < i ∧ Lib.occAt s sub j = true
    · obtain ⟨j, hj, e⟩ := k
      have := ih j hj (by omega) e
      omega
    · rw [Lib.index_first hi h fun j hj => by
        rw [Bool.eq_false_iff]; intro e; exact k ⟨j, hj, e⟩]
      exact Int.le_refl _
/-- What strings.Index tells of the border. -/
theorem cb_index {l : List UInt8} (hn : l ≠ []) (h0 : 0 < l.length - lp l) : Lib.index (l.drop 1) (l.take (l.length - lp l)) = (l.length : Int) - (l.length - lp l : Nat) - 1 ↔ 0 < cb l := by
  obtain ⟨p0, p1, p2, _⟩ := lp_ok hn
  have hend : SA (at_ l) (lp l) 0 (l.length - lp l) := fun d hd => by
    unfold at_
    rw [Nat.zero_add, Nat.add_comm]
    exact (p2 d (by omega)).symm
  have hocc : Lib.occAt (l.drop 1) (l.take (l.length - lp l)) (lp l - 1) = true := (occ_iff l _ _ h0 (by omega)).2 ⟨by omega, by rw [show 1 + (lp l - 1) = lp l by omega]; exact hend⟩
  constructor
  · intro h
    have : Cl l (l.length - lp l) := cl_lp hn h0 fun i hi hib hs => by
      have := index_le (l.drop 1) (l.take (l.length - lp l)) (i - 1) (by rw [List.length_drop]; omega) ((occ_iff l _ _ h0 (by omega)).2 ⟨by omega, by rw [show 1 + (i - 1) = i by omega]; exact hs⟩)
      omega
    rw [cb_of this]; exact h0
  · intro h
    have hc := cb_some h
    have e := hc.eq
    rw [Lib.index_first (i := lp l - 1) (by rw [List.length_drop]; omega) hocc fun j hj => by
      rw [Bool.eq_false_iff]
      intro k
      obtain ⟨k1, k2⟩ := (occ_iff l _ _ h0 (by omega)).1 k
      exact hc.2.2.2 (1 + j) (by omega) (by omega) (by rw [e]; exact k2)]
    omega
theorem cb_val {l : List UInt8} (h : 0 < cb l) : cb l = l.length - lp l := (cb_some h).eq
theorem cb_zero {l : List UInt8} (hn : l ≠ []) (h : ¬ 0 < l.length - lp l) : cb l = 0 := by
  refine cb_none fun ⟨b, hb⟩ => ?_
  have := hb.eq
  have := hb.1
  omega
/-- The model's tests of a border. -/
theorem tw_no {x : ByteArray} {i b : Nat} (h1 : 1 ≤ i) (h2 : i + b < x.size) (h : x.extract i (i + b) = x.extract 0 b) : ¬ Tw (bl x) b := fun k => k i h1 h2 (by
  have := ext_sa (x := x) (i := i) (j := 0) (m := b) (by omega) (by omega) (by rw [Nat.zero_add]; exact h)
  exact this)
theorem tw_step {x : ByteArray} {i b : Nat} (h : ∀ j, 1 ≤ j → j < i → j + b < x.size → ¬ SA (at_ (bl x)) j 0 b) (h2 : i + b < x.size) (hne : ¬ x.extract i (i + b) = x.extract 0 b) : ∀ j, 1 ≤ j → j < i + 1 → j + b < x.size → ¬ SA (at_ (bl x)) j 0 b := fun j h1 hj hb => by
  by_cases e : j = i
  · subst e
    intro k
    refine hne ?_
    have := ext_eq (x := x) (i := j) (j := 0) (m := b) (by omega) (by omega) k
    rwa [Nat.zero_add] at this
  · exact h j h1 (by omega) hb
/-- What is answered. -/
noncomputable def iscR (x : ByteArray) : Bool × Int := if ¬ IsW x then (false, 1) else (clB (bl x), 0)
theorem iscR_bad {x : ByteArray} (h : ¬ IsW x) : iscR x = (false, 1) := if_pos h
theorem iscR_ok {x : ByteArray} (h : IsW x) : iscR x = (clB (bl x), 0) := by unfold iscR; rw [if_neg (not_not_intro h)]
noncomputable def isprR (x : ByteArray) : Bool × Int := if ¬ IsW x then (false, 1) else (prB (bl x), 0)
theorem isprR_bad {x : ByteArray} (h : ¬ IsW x) : isprR x = (false, 1) := if_pos h
theorem isprR_ok {x : ByteArray} (h : IsW x) : isprR x = (prB (bl x), 0) := by unfold isprR; rw [if_neg (not_not_intro h)]
noncomputable def clT (x : ByteArray) : Bool := clB (bl x)
noncomputable def prT (x : ByteArray) : Bool := prB (bl x)
noncomputable def ccR (x : ByteArray) : Int × Int × Int := if ¬ IsW x then (0, 0, 1) else (((dfT clT x x.size).length : Int), ((dfT prT x x.size).length : Int), 0)
theorem ccR_bad {x : ByteArray} (h : ¬ IsW x) : ccR x = (0, 0, 1) := if_pos h
theorem ccR_ok {x : ByteArray} (h : IsW x) : ccR x = (((dfT clT x x.size).length : Int), ((dfT prT x x.size).length : Int), 0) := by unfold ccR; rw [if_neg (not_not_intro h)]

end Go.Proofs.YtddfdciohnabbacGreat

/-! ### TopPlain -/
namespace Go.Proofs.YtddfdciohnabbacGreat
set_option linter.unusedVariables false
set_option linter.unusedSimpArgs false

theorem Per.rev {l : List UInt8} {p : Nat} (h : Per l p) : Per l.reverse p := fun i hi => by
  rw [List.length_reverse] at hi
  rw [List.getElem?_reverse (by omega), List.getElem?_reverse (by omega)]
  have := h (l.length - 1 - (i + p)) (by omega)
  rw [show l.length - 1 - (i + p) + p = l.length - 1 - i by omega] at this
  exact this.symm
theorem perT_rev (l : List UInt8) (p : Nat) : perT l.reverse p = perT l p := by
  rw [Bool.eq_iff_iff, perT_iff, perT_iff]
  exact ⟨fun h => by have := h.rev; rwa [List.reverse_reverse] at this, Per.rev⟩
theorem persR_rev (l : List UInt8) (N : Nat) : persR l.reverse N = persR l N := by unfold persR; simp only [perT_rev]
theorem persR_end {l : List UInt8} (h : l ≠ []) : ∃ t, persR l l.length = t ++ [(l.length : Int)] := by
  obtain ⟨k, hk⟩ : ∃ k, l.length = k + 1 := ⟨l.length - 1, by have := List.length_pos_iff.2 h; omega⟩
  refine ⟨persR l k, ?_⟩
  have := persR_hit l k ((perT_iff l (k + 1)).2 (by rw [← hk]; exact per_all l))
  rw [hk, this]; simp
theorem persR_has {l : List UInt8} {p : Nat} (h0 : 0 < p) (hp : p ≤ l.length) (h : Per l p) : (p : Int) ∈ persR l l.length := by
  unfold persR
  refine List.mem_map.2 ⟨p - 1, List.mem_filter.2 ⟨List.mem_range.2 (by omega), ?_⟩, by omega⟩
  rw [show p - 1 + 1 = p by omega]
  exact (perT_iff l p).2 h
theorem repeat_len (l : List UInt8) : ∀ k, (Lib.repeatL l k).length = k * l.length
  | 0 => by simp [Lib.repeatL]
  | k + 1 => by rw [Lib.repeatL_add, Lib.repeatL_one, List.length_append, repeat_len l k, Nat.succ_mul]
theorem repeat_per (l : List UInt8) (k : Nat) : Per (Lib.repeatL l (k + 1)) l.length := by
  rw [← perT_iff]
  unfold perT
  rw [beq_iff_eq]
  have e1 : Lib.repeatL l (k + 1) = l ++ Lib.repeatL l k := by rw [Nat.add_comm, Lib.repeatL_add, Lib.repeatL_one]
  have e2 : Lib.repeatL l (k + 1) = Lib.repeatL l k ++ l := by rw [Lib.repeatL_add, Lib.repeatL_one]
  have e3 : (Lib.repeatL l (k + 1)).length - l.length = (Lib.repeatL l k).length := by rw [e2, List.length_append]; omega
  rw [e3]
  conv => lhs; rw [e1]
  conv => rhs; rw [e2]
  simp
theorem bl_pow (x : ByteArray) (k : Nat) : bl (pow x k) = Lib.repeatL (bl x) k := by simp [bl, pow]
theorem pow_per (x : ByteArray) (k : Nat) (h : 0 < k) : Per (bl (pow x k)) x.size := by
  obtain ⟨j, rfl⟩ : ∃ j, k = j + 1 := ⟨k - 1, by omega⟩
  rw [bl_pow]
  exact repeat_per (bl x) j
theorem rl_dvd_cyc {l : List UInt8} (h : l ≠ []) {m : Nat} (hm : Cyc l m) : rl l ∣ m := by
  have hg := (rl_cyc h).gcd hm
  have hp := rl_pos h
  have h1 : Nat.gcd (rl l) m ≤ rl l := Nat.gcd_le_left _ hp
  have h2 : 0 < Nat.gcd (rl l) m := Nat.gcd_pos_of_pos_left _ hp
  by_cases e : Nat.gcd (rl l) m < rl l
  · exact absurd hg (rl_least h h2 e)
  · have e2 : Nat.gcd (rl l) m = rl l := by omega
    rw [← e2]; exact Nat.gcd_dvd_right _ _
theorem IsW.ofL {x : ByteArray} (h : ∀ b ∈ bl x, 97 ≤ b.toNat ∧ b.toNat ≤ 101) (hs : x.size ≤ 60) : IsW x := ⟨hs, fun i hi => h _ (List.getElem_mem (l := bl x) (by rw [bl_len]; exact hi))⟩
theorem IsW.toL {x : ByteArray} (h : IsW x) : ∀ b ∈ bl x, 97 ≤ b.toNat ∧ b.toNat ≤ 101 := by
  intro b hb
  obtain ⟨i, hi, rfl⟩ := List.getElem_of_mem hb
  exact h.2 i (by rw [bl_len] at hi; exact hi)
theorem mem_repeat {l : List UInt8} {b : UInt8} : ∀ k, b ∈ Lib.repeatL l k → b ∈ l
  | 0, h => by simp [Lib.repeatL] at h
  | k + 1, h => by
    rw [Lib.repeatL_add, Lib.repeatL_one, List.mem_append] at h
    rcases h with h | h
    · exact mem_repeat k h
    · exact h
theorem pow_isW {x : ByteArray} (h : IsW x) (k : Nat) (hs : x.size * k ≤ 60) : IsW (pow x k) := IsW.ofL (fun b hb => h.toL b (by rw [bl_pow] at hb; exact mem_repeat k hb)) (by rw [pow_size]; exact hs)
theorem rev_size' (x : ByteArray) : (rev x).size = x.size := by
  have := congrArg List.length (bl_rev x)
  rwa [List.length_reverse, bl_len, bl_len] at this
theorem rev_isW {x : ByteArray} (h : IsW x) : IsW (rev x) := IsW.ofL (fun b hb => h.toL b (by rw [bl_rev, List.mem_reverse] at hb; exact hb)) (by rw [rev_size']; exact h.size)
/-- What the top promise tells of a word with letters. -/
structure TopW (x : ByteArray) : Prop where
  two : periodsR (rev x) = periodsR x
  pos : 0 < (periodsR x).1.length
  last : ∀ h : (periodsR x).1.length - 1 < (periodsR x).1.length, (periodsR x).1[(periodsR x).1.length - 1]'h = (x.size : Int)
theorem topW {x : ByteArray} (h : IsW x) (h0 : 0 < x.size) : TopW x := by
  have hr := rev_isW h
  obtain ⟨t, ht⟩ := persR_end (bl_ne h0)
  rw [bl_len] at ht
  have e : (periodsR x).1 = t ++ [(x.size : Int)] := by rw [periodsR_ok h]; exact ht
  refine ⟨?_, by rw [e]; simp, ?_⟩
  · have es := rev_size' x
    rw [periodsR_ok h, periodsR_ok hr, bl_rev, persR_rev, es]
  · rw [e]; intro hh; simp
/-- What it tells of a power. -/
theorem topP {x : ByteArray} (h : IsW x) (h0 : 0 < x.size) {k : Nat} (hk : 0 < k) (hs : x.size * k ≤ 60) :
    (x.size : Int) ∈ (periodsR (pow x k)).1 ∧ (periodsR (pow x k)).2 = 0 ∧ (rootR (pow x k)).2.2 = 0 ∧ ∃ c : Nat, (rootR (pow x k)).2.1 = ((c * k : Nat) : Int) ∧ (rootR (pow x k)).1.size * c = x.size := by
  have hw := pow_isW h k hs
  have hz : (pow x k).size = x.size * k := pow_size x k
  have hpos : 0 < (pow x k).size := by rw [hz]; exact Nat.mul_pos h0 hk
  have hle : x.size ≤ (pow x k).size := by rw [hz]; exact Nat.le_mul_of_pos_right _ hk
  have hper := pow_per x k hk
  have hne := bl_ne hpos
  have hcyc : Cyc (bl (pow x k)) x.size := cyc_of_per h0 hper (by rw [bl_len, hz]; exact Nat.dvd_mul_right _ _)
  obtain ⟨c, hc⟩ := rl_dvd_cyc hne hcyc
  have r0 := rl_pos hne
  have r1 := rl_le hne
  rw [bl_len] at r1
  refine ⟨?_, by rw [periodsR_ok hw], by rw [rootR_ok hw (by omega)], c, ?_, ?_⟩
  · rw [periodsR_ok hw]
    have := persR_has h0 (by rw [bl_len]; exact hle) hper
    rwa [bl_len] at this
  · rw [rootR_ok hw (by omega)]
    show (((pow x k).size / rl (bl (pow x k)) : Nat) : Int) = _
    rw [hz, hc, Nat.mul_assoc, Nat.mul_div_cancel_left _ r0]
  · rw [rootR_ok hw (by omega)]
    show ((pow x k).extract 0 (rl (bl (pow x k)))).size * c = x.size
    rw [show ((pow x k).extract 0 (rl (bl (pow x k)))).size = rl (bl (pow x k)) by simp; omega]
    exact hc.symm
/-- What it tells of the closure. -/
theorem topC {x : ByteArray} (h : IsW x) (hc : (cloR x).2 = 0) : ispR (cloR x).1 = (true, 0) ∧ x.size ≤ (cloR x).1.size ∧ (cloR x).1.extract 0 x.size = x ∧ (cloR x).1.size ≤ 60 := by
  by_cases hl : 60 < (clo x).size
  · rw [cloR_long h hl] at hc; cases hc
  · rw [cloR_ok h hl]
    have hw : IsW (clo x) := (isL_clo h.lets).word (by omega)
    refine ⟨by rw [ispR_ok hw, clo_pal], by show x.size ≤ (clo x).size; rw [clo_size]; omega, ?_, by show (clo x).size ≤ 60; omega⟩
    show (clo x).extract 0 x.size = x
    apply bl_inj
    rw [bl_take, bl_clo]
    unfold cloL
    rw [List.take_append_of_le_length (by rw [bl_len]; exact Nat.le_refl _), List.take_of_length_le (by rw [bl_len]; exact Nat.le_refl _)]
theorem topC_code {x : ByteArray} (h : IsW x) : (cloR x).2 = 0 ∨ (cloR x).2 = 3 := by
  by_cases hl : 60 < (clo x).size
  · rw [cloR_long h hl]; exact .inr rfl
  · rw [cloR_ok h hl]; exact .inl rfl

end Go.Proofs.YtddfdciohnabbacGreat

/-! ### FnCloGood -/
namespace Go.Proofs.YtddfdciohnabbacGreat
set_option linter.unusedVariables false
set_option linter.unusedSimpArgs false

theorem IsW.sub {x : ByteArray} (h : IsW x) (i j : Nat) : IsW (x.extract i j) := by
  have hs := h.size
  refine IsW.ofL (fun b hb => ?_) (by simp; omega)
  rw [bl_extract] at hb
  exact h.toL b (List.mem_of_mem_drop (List.mem_of_mem_take hb))
theorem pt_words {x : ByteArray} (h : IsW x) : ∀ f i, x.size - i ≤ f → ∀ z ∈ pt x i, IsW z
  | 0, i, hf, z, hz => by rw [pt_end (by omega)] at hz; cases hz
  | f + 1, i, hf, z, hz => by
    by_cases c : i < x.size
    · have h1 := nx_ok c
      rw [pt_step c] at hz
      rcases List.mem_cons.1 hz with rfl | hz
      · exact h.sub _ _
      · exact pt_words h f (nx x i) (by omega) z hz
    · rw [pt_end c] at hz; cases hz
theorem joinL_flat : ∀ L : List ByteArray, joinL L = (L.map bl).flatten
  | [] => rfl
  | z :: zs => by rw [joinL, joinL_flat zs, List.map_cons, List.flatten_cons]
theorem parts_cases (x : ByteArray) : ((partsPR x).2 = 1 ∧ (partsPR x).1 = []) ∨ ((partsPR x).2 = 0 ∧ (∀ z ∈ (partsPR x).1, ispR z = (true, 0) ∧ 0 < z.size ∧ z.size ≤ 60) ∧ ofL ((partsPR x).1.map bl).flatten = x ∧ ((partsPR x).1.map bl).flatten.length ≤ 60 ∧ (partsPR x).1.length ≤ 4096) := by
  by_cases h : IsW x
  · have hl := partsPR_len x
    rw [partsPR_ok h] at hl ⊢
    have hj := pt_join x x.size 0 (by omega)
    rw [joinL_flat, List.drop_zero] at hj
    have hs := h.size
    refine .inr ⟨rfl, fun z hz => ?_, ?_, ?_, hl⟩
    · have hw := pt_words h x.size 0 (by omega) z hz
      obtain ⟨hp, h0⟩ := pt_pals x x.size 0 (by omega) z hz
      exact ⟨by rw [ispR_ok hw, hp], h0, hw.size⟩
    · show ofL ((pt x 0).map bl).flatten = x
      rw [hj]
      apply bl_inj
      rw [bl_ofL]
    · show ((pt x 0).map bl).flatten.length ≤ 60
      rw [hj, bl_len]
      exact hs
  · rw [partsPR_bad h]
    exact .inl ⟨rfl, rfl⟩

theorem clo_cases (x : ByteArray) : (cloR x).2 ≠ 0 ∨ ((cloR x).2 = 0 ∧ ispR (cloR x).1 = (true, 0) ∧ x.size ≤ (cloR x).1.size ∧ (cloR x).1.extract 0 x.size = x ∧ (cloR x).1.size ≤ 60 ∧ (0 < x.size → (cloR x).1.size ≤ 2 * x.size - 1)) := by
  by_cases h : IsW x
  · by_cases hc : (cloR x).2 = 0
    · obtain ⟨h1, h2, h3, h4⟩ := topC h hc
      refine .inr ⟨hc, h1, h2, h3, h4, fun h0 => ?_⟩
      by_cases hl : 60 < (clo x).size
      · rw [cloR_long h hl] at hc; cases hc
      · rw [cloR_ok h hl]
        show (clo x).size ≤ _
        rw [clo_size]
        have := endP_pos (bl x) (fun e => by have h8 := congrArg List.length e; rw [bl_len] at h8; have h9 : x.size = 0 := h8; omega)
        omega
    · exact .inl hc
  · rw [cloR_bad h]
    exact .inl (by decide)

theorem dirF_good {x : ByteArray} (hx : IsL x) : ∀ (f k : Nat) (p q : ByteArray), k + f ≤ x.size → IsL p → palB (bl p) = true → p.size ≤ 60 → dirF x k f p = some q → IsL q ∧ palB (bl q) = true ∧ q.size ≤ 60
  | 0, k, p, q, _, h1, h2, h3, e => by rw [dirF_end] at e; cases e; exact ⟨h1, h2, h3⟩
  | f + 1, k, p, q, hk, h1, h2, h3, e => by
    by_cases hl : 60 < (clo (p ++ x.extract k (k + 1))).size
    · rw [dirF_long hl] at e; cases e
    · rw [dirF_go hl] at e
      exact dirF_good hx f (k + 1) _ q (by omega) (isL_clo (isL_snoc h1 hx (by omega))) (clo_pal _) (by omega) e
theorem dir_cases (x : ByteArray) : (dirR x).2 ≠ 0 ∨ ((dirR x).2 = 0 ∧ (dirR x).1.size ≤ 60 ∧ ispR (dirR x).1 = (true, 0) ∧ defR (dirR x).1 = (0, 0)) := by
  by_cases h : IsW x
  · rw [dirR_ok h]
    cases hd : dirF x 0 x.size ⟨#[]⟩ with
    | none => exact .inl (by decide)
    | some q =>
      obtain ⟨q1, q2, q3⟩ := dirF_good h.lets x.size 0 ⟨#[]⟩ q (by omega) (fun i hi => absurd hi (by show ¬ i < 0; omega)) (by rw [show bl ⟨#[]⟩ = [] from rfl]; decide) (by show 0 ≤ 60; omega) hd
      have hw := q1.word q3
      have hr := pals_rich (dir_of x.size 0 ⟨#[]⟩ q (by omega) Dir.nil hd)
      refine .inr ⟨rfl, q3, ?_, ?_⟩
      · show ispR q = _
        rw [ispR_ok hw, q2]
      · show defR q = _
        rw [defR_ok hw, hr]
        simp
  · rw [dirR_bad h]
    exact .inl (by decide)

theorem isc_cases (x : ByteArray) : ((iscR x).2 = 1) ∨ ((iscR x).2 = 0 ∧ (isprR x).2 = 0 ∧ ((isprR x).1 = true → (iscR x).1 = true)) := by
  by_cases h : IsW x
  · rw [iscR_ok h, isprR_ok h]
    exact .inr ⟨rfl, rfl, fun k => pr_cl k⟩
  · rw [iscR_bad h]
    exact .inl rfl

theorem cc_cases (x : ByteArray) : ((ccR x).2.2 = 1) ∨ ((ccR x).2.2 = 0 ∧ (ccR x).2.1 ≤ (ccR x).1 ∧ (0 < x.size → 1 ≤ (ccR x).2.1)) := by
  by_cases h : IsW x
  · rw [ccR_ok h]
    refine .inr ⟨rfl, ?_, fun h0 => ?_⟩
    · have := nodup_sub (dfT prT x x.size) (dfT clT x x.size) (dfT_nodup _ _ _ (Nat.le_refl _)) (fun z hz => by
        rw [mem_dfT _ _ _ _ (Nat.le_refl _)] at hz ⊢
        exact ⟨hz.1, pr_cl hz.2⟩)
      show ((dfT prT x x.size).length : Int) ≤ ((dfT clT x x.size).length : Int)
      omega
    · have hm : x.extract 0 1 ∈ dfT prT x x.size := by
        rw [mem_dfT _ _ _ _ (Nat.le_refl _)]
        refine ⟨⟨0, 1, Nat.le_refl _, h0, by omega, rfl⟩, prB_short (by rw [bl_len]; simp; omega)⟩
      have := List.length_pos_of_mem hm
      show (1 : Int) ≤ ((dfT prT x x.size).length : Int)
      omega
  · rw [ccR_bad h]
    exact .inl rfl

end Go.Proofs.YtddfdciohnabbacGreat

/-! ### Closed -/
namespace Go.Proofs.YtddfdciohnabbacGreat
set_option linter.unusedVariables false
set_option linter.unusedSimpArgs false
open Go.RowKit

/-- The library's variable holds a number. -/
def MaxOK (w : World) : Prop := ∃ m, w.cell? ⟨0, 0, none⟩ = some (.int .i64 m)
theorem MaxOK.below {w w' : World} (h : MaxOK w) (b : Below w.heap.size w w') : MaxOK w' := by
  obtain ⟨m, hm⟩ := h
  refine ⟨m, (b.cell (p := ⟨0, 0, none⟩) ?_).trans hm⟩
  show 0 < w.heap.size
  refine Nat.lt_of_not_le fun hc => ?_
  unfold World.cell? at hm
  rw [Array.getElem?_eq_none hc] at hm
  cases hm
theorem MaxOK.drewN {w : World} (h : MaxOK w) (n : Nat) : MaxOK (w.drewN n) := by
  obtain ⟨m, hm⟩ := h
  exact ⟨m, hm⟩

set_option maxRecDepth 100000 in
set_option maxHeartbeats 1000000 in
theorem closingBorder_any (x : ByteArray) (w : World) (hx : x.size ≤ 60) (h0 : 0 < x.size) (hM : MaxOK w) :
    Calls Tryz.prog 56 #[.string x] w fun e w' => e = .returned (.int .i64 (cb (bl x) : Int)) ∧ Below w.heap.size w w' := by
  have hne := bl_ne h0
  have CL := Lib.hid fun w => leastPeriod_any x w hx h0
  obtain ⟨p0, p1, _, _⟩ := lp_ok hne
  rw [bl_len] at p1
  by_cases hb : 0 < x.size - lp (bl x)
  · have hix := cb_index hne (by rw [bl_len]; exact hb)
    have hcv : Hid (0 < cb (bl x) → cb (bl x) = x.size - lp (bl x)) := Lib.hid fun h => by have := cb_val h; rwa [bl_len] at this
    rw [bl_len] at hix
    generalize lp (bl x) = p at *
    generalize cb (bl x) = c at *
    have hs1 := fun W => slice_from x 1 1 rfl (by omega) W
    have hs2 := fun W => slice_to x ((x.size : Int) - (p : Int)) (x.size - p) (by omega) (by omega) W
    have CI : Hid (∀ w, MaxOK w → Calls Tryz.prog 62 #[.string (x.extract 1 x.size), .string (x.extract 0 (x.size - p))] w fun e w' => e = .returned (.int .i64 (Lib.index ((bl x).drop 1) ((bl x).take (x.size - p)))) ∧ w' = w) := Lib.hid fun w ⟨m, hm⟩ => by
      have := Tryz.strings_Index (x.extract 1 x.size) (x.extract 0 (x.size - p)) m w (by simp; omega) hm
      have e1 : (x.extract 1 x.size).data.toList = (bl x).drop 1 := bl_drop x 1
      have e2 : (x.extract 0 (x.size - p)).data.toList = (bl x).take (x.size - p) := bl_take x _
      rwa [e1, e2] at this
    have HM := Lib.hid hM
    clear hM
    generalize Lib.index ((bl x).drop 1) ((bl x).take (x.size - p)) = I at *
    generalize x.extract 1 x.size = y1 at *
    generalize x.extract 0 (x.size - p) = y2 at *
    have hpos : decide (p < x.size) = true := decide_eq_true (by omega)
    by_cases hc : 0 < c
    · have hI : I = (x.size : Int) - ((x.size : Int) - (p : Int)) - 1 := by rw [hix.2 hc]; omega
      have HC : Hid ((c : Int) = (x.size : Int) - (p : Int)) := Lib.hid (by rw [hcv.out hc]; omega)
      subst hI
      clear hix
      go_enter Tryz.func56, Tryz.ntmps56
      go_wp2_with fail
      refine (CL.out _).mono ?_
      rintro e w1 ⟨rfl, b1⟩
      have HM1 := Lib.hid (HM.out.below b1)
      go_wp2
      go_quiet ((go_at_call 62; exact Calls.quiet_of_same (CI.out _ (HM1.out.drewN _))))
      go_wp2
      go_ret
      exact ⟨by rw [HC.out]; rfl, b1.drewN _⟩
    · have hI : ¬ I = (x.size : Int) - ((x.size : Int) - (p : Int)) - 1 := fun e => hc (hix.1 (by rw [e]; omega))
      have HC : Hid (c = 0) := Lib.hid (by omega)
      clear hix
      go_enter Tryz.func56, Tryz.ntmps56
      go_wp2_with fail
      refine (CL.out _).mono ?_
      rintro e w1 ⟨rfl, b1⟩
      have HM1 := Lib.hid (HM.out.below b1)
      go_wp2
      go_quiet ((go_at_call 62; exact Calls.quiet_of_same (CI.out _ (HM1.out.drewN _))))
      go_wp2
      go_ret
      exact ⟨by rw [HC.out]; rfl, b1.drewN _⟩
  · have HC := Lib.hid (cb_zero hne (by rw [bl_len]; exact hb))
    generalize lp (bl x) = p at *
    generalize cb (bl x) = c at *
    have hpos : decide (p < x.size) = false := decide_eq_false (by omega)
    go_enter Tryz.func56, Tryz.ntmps56
    go_wp2_with fail
    refine (CL.out _).mono ?_
    rintro e w1 ⟨rfl, b1⟩
    go_wp2
    go_quiet (fail)
    go_wp2
    go_ret
    exact ⟨by rw [HC.out]; rfl, b1.drewN _⟩

set_option maxRecDepth 100000 in
set_option maxHeartbeats 1000000 in
theorem isClosed_any (x : ByteArray) (w : World) (hx : x.size ≤ 60) (hM : MaxOK w) :
    Calls Tryz.prog 40 #[.string x] w fun e w' => e = .returned (.bool (clB (bl x))) ∧ Below w.heap.size w w' := by
  by_cases h1 : x.size ≤ 1
  · have HC := Lib.hid (clB_short (l := bl x) h1)
    have h1i : (x.size : Int) ≤ 1 := by omega
    go_enter Tryz.func40, Tryz.ntmps40
    go_wp2
    go_ret
    exact ⟨by rw [HC.out]; rfl, Below.refl _ _⟩
  · have HC := Lib.hid (clB_long (l := bl x) h1)
    have CB := Lib.hid (closingBorder_any x w hx (by omega) hM)
    have h1i : ¬ (x.size : Int) ≤ 1 := by omega
    generalize cb (bl x) = c at *
    go_enter Tryz.func40, Tryz.ntmps40
    go_wp2_with (go_at_call 56; refine CB.out.mono ?_; rintro e w2 ⟨rfl, b2⟩)
    go_ret
    exact ⟨by rw [HC.out]; exact ret_bool (by simp), b2⟩

theorem slice_toC (x : ByteArray) (z : Int) (n : Nat) (hz : z = n) (h : n ≤ x.size) (W : World) :
    (Instr.slice 56 (.string x) none (some (.int .i64 z)) none).run Tryz.prog W = .ok (.string (x.extract 0 n)) W := by
  subst hz
  have := run_slice_string_h (P := Tryz.prog) W 56 x Tryz.underlying56 .i64 (n : Int) (by omega) (by omega)
  simpa using this

set_option maxRecDepth 100000 in
set_option maxHeartbeats 1000000 in
theorem isPriv_any : ∀ (n : Nat) (x : ByteArray) (w : World), x.size ≤ n → x.size ≤ 60 → MaxOK w →
    Calls Tryz.prog 42 #[.string x] w fun e w' => e = .returned (.bool (prB (bl x))) ∧ Below w.heap.size w w' := by
  intro n
  induction n with
  | zero =>
    intro x w hn hx hM
    have HC := Lib.hid (prB_short (l := bl x) (by rw [bl_len]; omega))
    have h1i : (x.size : Int) ≤ 1 := by omega
    go_enter Tryz.func42, Tryz.ntmps42
    go_wp2
    go_ret
    exact ⟨by rw [HC.out]; rfl, Below.refl _ _⟩
  | succ n ih =>
    intro x w hn hx hM
    by_cases h1 : x.size ≤ 1
    · have HC := Lib.hid (prB_short (l := bl x) h1)
      have h1i : (x.size : Int) ≤ 1 := by omega
      clear ih
      go_enter Tryz.func42, Tryz.ntmps42
      go_wp2
      go_ret
      exact ⟨by rw [HC.out]; rfl, Below.refl _ _⟩
    · have CB := Lib.hid (closingBorder_any x w hx (by omega) hM)
      have h1i : ¬ (x.size : Int) ≤ 1 := by omega
      have HM := Lib.hid hM
      clear hM
      by_cases hc : 0 < cb (bl x)
      · have hlt := cb_lt hc
        rw [bl_len] at hlt
        have HC := Lib.hid (prB_long (l := bl x) h1 hc)
        have CI : Hid (∀ w, MaxOK w → Calls Tryz.prog 42 #[.string (x.extract 0 (cb (bl x)))] w fun e w' => e = .returned (.bool (prB ((bl x).take (cb (bl x))))) ∧ Below w.heap.size w w') := Lib.hid fun w hw => by
          have := ih (x.extract 0 (cb (bl x))) w (by simp; omega) (by simp; omega) hw
          rwa [bl_take] at this
        have hsl := fun W => slice_toC x (cb (bl x) : Int) (cb (bl x)) rfl (by omega) W
        have hci : (0 : Int) < (cb (bl x) : Int) := by omega
        clear ih
        generalize x.extract 0 (cb (bl x)) = y at *
        generalize cb (bl x) = c at *
        go_enter Tryz.func42, Tryz.ntmps42
        go_wp2_with (first | (go_at_call 56; refine CB.out.mono ?_; rintro e w2 ⟨rfl, b2⟩; have HM2 := Lib.hid (HM.out.below b2)) | (go_at_call 42; refine (CI.out _ HM2.out).mono ?_; rintro e w3 ⟨rfl, b3⟩))
        go_ret
        exact ⟨by rw [HC.out]; rfl, b2.then b3⟩
      · have HC := Lib.hid (prB_none (l := bl x) h1 hc)
        have hci : ¬ (0 : Int) < (cb (bl x) : Int) := by omega
        clear ih
        generalize cb (bl x) = c at *
        go_enter Tryz.func42, Tryz.ntmps42
        go_wp2_with (go_at_call 56; refine CB.out.mono ?_; rintro e w2 ⟨rfl, b2⟩)
        go_ret
        exact ⟨by rw [HC.out]; rfl, b2⟩

end Go.Proofs.YtddfdciohnabbacGreat

/-! ### ClosedS -/
namespace Go.Proofs.YtddfdciohnabbacGreat
set_option linter.unusedVariables false
set_option linter.unusedSimpArgs false
open Go.RowKit

open Classical in
noncomputable def twB (l : List UInt8) (b : Nat) : Bool := decide (Tw l b)
open Classical in
theorem twB_yes {l : List UInt8} {b : Nat} (h : Tw l b) : twB l b = true := decide_eq_true h
open Classical in
theorem twB_no {l : List UInt8} {b : Nat} (h : ¬ Tw l b) : twB l b = false := decide_eq_false h

set_option maxRecDepth 100000 in
set_option maxHeartbeats 1000000 in
theorem l04Twice_q (x : ByteArray) (b : Nat) (w : World) (hx : x.size ≤ 60) (hb : b < x.size) :
    Calls Tryz.prog 57 #[.string x, .int .i64 (b : Int)] w fun e w' => e = .returned (.bool (twB (bl x) b)) ∧ ∃ n, w' = w.drewN n := by
  go_enter Tryz.func57, Tryz.ntmps57
  go_wp2
  go_loopw [5] (fun i wr => ∃ (k : Nat), 1 ≤ k ∧ k + b ≤ x.size + 1 ∧ i = .int .i64 (k : Int) ∧ Hid (Drawn w wr) ∧ Hid (∀ j, 1 ≤ j → j < k → j + b < x.size → ¬ SA (at_ (bl x)) j 0 b))
    (fun i _ => x.size + 1 - (intOf i).toNat)
  case atStart => exact ⟨1, Nat.le_refl _, by omega, rfl, Lib.hid (Drawn.refl w), Lib.hid fun j h1 h2 _ => by omega⟩
  case round =>
    obtain ⟨k, hk1, hk, rfl, HW, HU⟩ := hrel
    by_cases hp : k + b < x.size
    · have hlt : (k : Int) + (b : Int) < (x.size : Int) := by omega
      have hs1 : ∀ W, (Instr.slice 9 (.string x) (some (.int .i64 (k : Int))) (some (.int .i64 ((k : Int) + (b : Int)))) none).run Tryz.prog W = .ok (.string (x.extract k (k + b))) W := fun W => slice_mid x k b (by omega) W
      have hs2 := fun W => slice_to x (b : Int) b rfl (by omega) W
      have HNo := Lib.hid (tw_no (x := x) (i := k) (b := b) hk1 hp)
      have HSt := Lib.hid (tw_step (x := x) (i := k) (b := b) HU.out hp)
      generalize x.extract k (k + b) = y1 at *
      generalize x.extract 0 b = y2 at *
      by_cases he : y1 = y2
      · have hq := teq_yes he
        have HR := Lib.hid (twB_no (HNo.out he))
        clear he
        go_wp2
        go_quiet (fail)
        go_wp2
        go_ret
        exact ⟨by rw [HR.out]; rfl, HW.out.more _⟩
      · have hq := teq_no he
        have HN := Lib.hid (HSt.out he)
        clear he
        go_wp2
        go_quiet (fail)
        go_wp2
        go_roundw
        case rel => exact ⟨k + 1, by omega, by omega, by go_num, Lib.hid (HW.out.more _), HN⟩
        case measure => simp [intOf]; omega
    · have hlt : ¬ (k : Int) + (b : Int) < (x.size : Int) := by omega
      have HR := Lib.hid (twB_yes (l := bl x) (b := b) fun i h1 h2 => HU.out i h1 (by rw [bl_len] at h2; omega) (by rw [bl_len] at h2; exact h2))
      go_wp2
      go_ret
      exact ⟨by rw [HR.out]; rfl, HW.out⟩

/-- What is asked: closed, or privileged. -/
noncomputable def clpB (p : Bool) (l : List UInt8) : Bool := if p then prB l else clB l
def clpOK (p : Bool) (l : List UInt8) (j : Nat) : Prop := Cl l j ∧ (p = true → prB (l.take j) = true)
theorem clpB_short {p : Bool} {l : List UInt8} (h : l.length ≤ 1) : clpB p l = true := by
  cases p
  · exact clB_short h
  · exact prB_short h
theorem clpB_yes {p : Bool} {l : List UInt8} {j : Nat} (h : ¬ l.length ≤ 1) (k : clpOK p l j) : clpB p l = true := by
  have e := cb_of k.1
  have h0 : 0 < cb l := by rw [e]; exact k.1.1
  cases p
  · show clB l = true
    rw [clB_long h]; exact decide_eq_true h0
  · show prB l = true
    rw [prB_long h h0, e]; exact k.2 rfl
theorem clpB_no {p : Bool} {l : List UInt8} (h : ¬ l.length ≤ 1) (k : ∀ j, 1 ≤ j → j < l.length → ¬ clpOK p l j) : clpB p l = false := by
  by_cases h0 : 0 < cb l
  · have hc := cb_some h0
    have h2 := k _ hc.1 hc.2.1
    cases p
    · exact absurd ⟨hc, fun e => by cases e⟩ h2
    · show prB l = false
      rw [prB_long h h0, Bool.eq_false_iff]
      intro e
      exact h2 ⟨hc, fun _ => e⟩
  · cases p
    · show clB l = false
      rw [clB_long h]; exact decide_eq_false h0
    · exact prB_none h h0
theorem clp_step {p : Bool} {l : List UInt8} {k : Nat} (h : ∀ j, 1 ≤ j → j < k → j < l.length → ¬ clpOK p l j) (hk : ¬ clpOK p l k) : ∀ j, 1 ≤ j → j < k + 1 → j < l.length → ¬ clpOK p l j := fun j h1 h2 h3 => by
  by_cases e : j = k
  · subst e; exact hk
  · exact h j h1 (by omega) h3

set_option maxRecDepth 100000 in
set_option maxHeartbeats 2000000 in
theorem l04Closed_q : ∀ (N : Nat) (x : ByteArray) (p : Bool) (w : World), x.size ≤ N → x.size ≤ 60 →
    Calls Tryz.prog 41 #[.string x, .bool p] w fun e w' => e = .returned (.bool (clpB p (bl x))) ∧ ∃ n, w' = w.drewN n := by
  intro N
  induction N with
  | zero =>
    intro x p w hn hx
    have HC := Lib.hid (clpB_short (p := p) (l := bl x) (by rw [bl_len]; omega))
    have h1i : (x.size : Int) < 2 := by omega
    go_enter Tryz.func41, Tryz.ntmps41
    go_wp2
    go_ret
    exact ⟨by rw [HC.out]; rfl, 0, rfl⟩
  | succ N ih =>
    intro x p w hn hx
    by_cases h1 : x.size ≤ 1
    · have HC := Lib.hid (clpB_short (p := p) (l := bl x) h1)
      have h1i : (x.size : Int) < 2 := by omega
      clear ih
      go_enter Tryz.func41, Tryz.ntmps41
      go_wp2
      go_ret
      exact ⟨by rw [HC.out]; rfl, 0, rfl⟩
    · have IH := Lib.hid ih
      clear ih
      have h1i : ¬ (x.size : Int) < 2 := by omega
      obtain ⟨R, hR⟩ : ∃ R, clpB p (bl x) = R := ⟨_, rfl⟩
      rw [hR]
      have HY : Hid (∀ j, clpOK p (bl x) j → R = true) := Lib.hid fun j hj => by rw [← hR]; exact clpB_yes h1 hj
      have HN0 : Hid ((∀ j, 1 ≤ j → j < x.size → ¬ clpOK p (bl x) j) → R = false) := Lib.hid fun hj => by rw [← hR]; exact clpB_no h1 hj
      clear hR
      go_enter Tryz.func41, Tryz.ntmps41
      go_wp2
      go_loopw [5] (fun i wr => ∃ (k : Nat), 1 ≤ k ∧ k ≤ x.size ∧ i = .int .i64 (k : Int) ∧ Hid (Drawn w wr) ∧ Hid (∀ j, 1 ≤ j → j < k → j < x.size → ¬ clpOK p (bl x) j))
        (fun i _ => x.size + 1 - (intOf i).toNat)
      case atStart => exact ⟨1, Nat.le_refl _, by omega, rfl, Lib.hid (Drawn.refl w), Lib.hid fun j h1 h2 _ => by omega⟩
      case round =>
        obtain ⟨k, hk1, hk, rfl, HW, HU⟩ := hrel
        by_cases hp : k < x.size
        · have hlt : (k : Int) < (x.size : Int) := by omega
          have hs1 := fun W => slice_to x (k : Int) k rfl (by omega) W
          have hs2 := fun W => slice_from x ((x.size : Int) - (k : Int)) (x.size - k) (by omega) (by omega) W
          have hpt : x.extract 0 k = x.extract (x.size - k) x.size ↔ Per (bl x) (x.size - k) := by
            have := per_text x (x.size - k) (by omega)
            rw [show x.size - (x.size - k) = k by omega, perT_iff] at this
            rw [← this]; exact eq_comm
          have CT := Lib.hid fun w => l04Twice_q x k w hx hp
          have CI : Hid (∀ w, Calls Tryz.prog 41 #[.string (x.extract 0 k), .bool true] w fun e w' => e = .returned (.bool (prB ((bl x).take k))) ∧ ∃ n, w' = w.drewN n) := Lib.hid fun w => by
            have := IH.out (x.extract 0 k) true w (by simp; omega) (by simp; omega)
            rwa [bl_take] at this
          have HST := Lib.hid (clp_step (p := p) (l := bl x) (k := k) HU.out)
          have HOK : Hid (Per (bl x) (x.size - k) → Tw (bl x) k → (p = true → prB ((bl x).take k) = true) → clpOK p (bl x) k) := Lib.hid fun a b c => ⟨⟨hk1, by rw [bl_len]; exact hp, by rw [bl_len]; exact a, b⟩, c⟩
          have HNO : Hid (clpOK p (bl x) k → Per (bl x) (x.size - k) ∧ Tw (bl x) k ∧ (p = true → prB ((bl x).take k) = true)) := Lib.hid fun c => ⟨by have := c.1.2.2.1; rwa [bl_len] at this, c.1.2.2.2, c.2⟩
          generalize x.extract 0 k = y1 at *
          generalize x.extract (x.size - k) x.size = y2 at *
          by_cases he : y1 = y2
          · have hq := teq_yes he
            have hper := hpt.1 he
            by_cases htw : Tw (bl x) k
            · have CT2 : Hid (∀ w, Calls Tryz.prog 57 #[.string x, .int .i64 (k : Int)] w fun e w' => e = .returned (.bool true) ∧ ∃ n, w' = w.drewN n) := Lib.hid fun w => by
                have := CT.out w
                rwa [twB_yes htw] at this
              cases p with
              | false =>
                have HR := Lib.hid (HY.out k (HOK.out hper htw fun e => by cases e))
                clear he hpt hper htw CT
                go_wp2
                go_quiet ((go_at_call 57; exact Calls.quiet_of (CT2.out _)))
                go_wp2
                go_ret
                exact ⟨by rw [HR.out]; rfl, HW.out.more _⟩
              | true =>
                by_cases hpr : prB ((bl x).take k) = true
                · have HR := Lib.hid (HY.out k (HOK.out hper htw fun _ => hpr))
                  have CI2 : Hid (∀ w, Calls Tryz.prog 41 #[.string y1, .bool true] w fun e w' => e = .returned (.bool true) ∧ ∃ n, w' = w.drewN n) := Lib.hid fun w => by
                    have := CI.out w
                    rwa [hpr] at this
                  clear he hpt hper htw CT CI hpr
                  go_wp2
                  go_quiet ((first | (go_at_call 57; exact Calls.quiet_of (CT2.out _)) | (go_at_call 41; exact Calls.quiet_of (CI2.out _))))
                  go_wp2
                  go_ret
                  exact ⟨by rw [HR.out]; rfl, HW.out.more _⟩
                · have HN := Lib.hid (HST.out fun c => hpr ((HNO.out c).2.2 rfl))
                  have hpr2 : prB ((bl x).take k) = false := by simpa using hpr
                  have CI2 : Hid (∀ w, Calls Tryz.prog 41 #[.string y1, .bool true] w fun e w' => e = .returned (.bool false) ∧ ∃ n, w' = w.drewN n) := Lib.hid fun w => by
                    have := CI.out w
                    rwa [hpr2] at this
                  clear he hpt hper htw CT CI hpr hpr2
                  go_wp2
                  go_quiet ((first | (go_at_call 57; exact Calls.quiet_of (CT2.out _)) | (go_at_call 41; exact Calls.quiet_of (CI2.out _))))
                  go_wp2
                  go_roundw
                  case rel => exact ⟨k + 1, by omega, by omega, by go_num, Lib.hid (HW.out.more _), HN⟩
                  case measure => simp [intOf]; omega
            · have CT2 : Hid (∀ w, Calls Tryz.prog 57 #[.string x, .int .i64 (k : Int)] w fun e w' => e = .returned (.bool false) ∧ ∃ n, w' = w.drewN n) := Lib.hid fun w => by
                have := CT.out w
                rwa [twB_no htw] at this
              have HN := Lib.hid (HST.out fun c => htw (HNO.out c).2.1)
              clear he hpt hper htw CT CI
              go_wp2
              go_quiet ((go_at_call 57; exact Calls.quiet_of (CT2.out _)))
              go_wp2
              go_roundw
              case rel => exact ⟨k + 1, by omega, by omega, by go_num, Lib.hid (HW.out.more _), HN⟩
              case measure => simp [intOf]; omega
          · have hq := teq_no he
            have HN := Lib.hid (HST.out fun c => he (hpt.2 (HNO.out c).1))
            clear he hpt CT CI
            go_wp2
            go_quiet (fail)
            go_wp2
            go_roundw
            case rel => exact ⟨k + 1, by omega, by omega, by go_num, Lib.hid (HW.out.more _), HN⟩
            case measure => simp [intOf]; omega
        · have hlt : ¬ (k : Int) < (x.size : Int) := by omega
          have HR := Lib.hid (HN0.out fun j h1 h2 => HU.out j h1 (by omega) h2)
          go_wp2
          go_ret
          exact ⟨by rw [HR.out]; rfl, HW.out⟩

end Go.Proofs.YtddfdciohnabbacGreat

/-! ### IsCl -/
namespace Go.Proofs.YtddfdciohnabbacGreat
set_option linter.unusedVariables false
set_option linter.unusedSimpArgs false
open Go.RowKit

theorem Drawn.below {w wr : World} (h : Drawn w wr) : Below w.heap.size w wr := by
  obtain ⟨n, rfl⟩ := h
  exact (Below.refl _ _).drewN n
theorem maxOK_of {w : World} (h : w.ShapedOpen Tryz.prog) : MaxOK w := Tryz.laysM143.s1_3 w h

set_option maxRecDepth 100000 in
set_option maxHeartbeats 1000000 in
theorem spec_IsClosedWord (x : ByteArray) (w : World) (sx : x.size ≤ maxLen) :
    Calls Tryz.prog 16 #[.string x] w fun e w' => e = .returned (.tuple #[.bool (iscR x).1, .int .i64 (iscR x).2]) ∧ Below w.heap.size w w' := by
  by_cases h : IsW x
  · rw [iscR_ok h]
    have h1 := h.size
    have H := Lib.hid h
    have CC : Hid (∀ w, Calls Tryz.prog 41 #[.string x, .bool false] w fun e w' => e = .returned (.bool (clB (bl x))) ∧ Below w.heap.size w w') := Lib.hid fun w => (l04Closed_q x.size x false w (Nat.le_refl _) h1).mono fun e w' ⟨he, hd⟩ => ⟨he, Drawn.below hd⟩
    clear h
    go_enter Tryz.func16, Tryz.ntmps16
    go_wp2_with fail
    refine (l01Is_yes x _ H.out).mono ?_
    rintro e w1 ⟨rfl, b1⟩
    go_wp2_with fail
    refine (CC.out _).mono ?_
    rintro e w2 ⟨rfl, b2⟩
    go_wp2_with fail
    go_ret2
    exact ⟨rfl, b1.then b2⟩
  · rw [iscR_bad h]
    have H := Lib.hid h
    clear h
    go_enter Tryz.func16, Tryz.ntmps16
    go_wp2_with fail
    refine (l01Is_no x _ sx H.out).mono ?_
    rintro e w1 ⟨rfl, b1⟩
    go_wp2_with fail
    go_ret2
    exact ⟨rfl, b1⟩

set_option maxRecDepth 100000 in
set_option maxHeartbeats 1000000 in
theorem test_isClosed (x : ByteArray) (b : Bool) (w : World) (h : IsW x) (CF : ∀ W : World, Below w.heap.size w W → Calls Tryz.prog 40 #[.string x] W fun e w' => e = .returned (.bool b) ∧ Below W.heap.size W w') :
    Calls Tryz.prog 39 #[.string x, .func (.func 40) #[] #[]] w fun e w' => e = .returned (.tuple #[.bool b, .int .i64 0]) ∧ Below w.heap.size w w' := by
  have H := Lib.hid h
  have HF := Lib.hid CF
  clear h CF
  go_enter Tryz.func39, Tryz.ntmps39
  go_wp2_with fail
  refine (isWord_yes x _ H.out).mono ?_
  rintro e w1 ⟨rfl, b1⟩
  go_wp2_with (go_at_call 40; refine (HF.out _ b1).mono ?_; rintro e w2 ⟨rfl, b2⟩)
  go_ret2
  exact ⟨rfl, b1.then b2⟩

set_option maxRecDepth 100000 in
set_option maxHeartbeats 1000000 in
theorem testBad_isClosed (x : ByteArray) (w : World) (sx : x.size ≤ maxLen) (h : ¬ IsW x) :
    Calls Tryz.prog 39 #[.string x, .func (.func 40) #[] #[]] w fun e w' => e = .returned (.tuple #[.bool false, .int .i64 1]) ∧ Below w.heap.size w w' := by
  have H := Lib.hid h
  clear h
  go_enter Tryz.func39, Tryz.ntmps39
  go_wp2_with fail
  refine (isWord_not x _ sx H.out).mono ?_
  rintro e w1 ⟨rfl, b1⟩
  go_wp2_with fail
  go_ret2
  exact ⟨rfl, b1⟩

set_option maxRecDepth 100000 in
set_option maxHeartbeats 1000000 in
theorem impl_IsClosedWord (x : ByteArray) (w : World) (sx : x.size ≤ maxLen) (hM : MaxOK w) :
    Calls Tryz.prog 15 #[.string x] w fun e w' => e = .returned (.tuple #[.bool (iscR x).1, .int .i64 (iscR x).2]) ∧ Below w.heap.size w w' := by
  by_cases h : IsW x
  · rw [iscR_ok h]
    have h1 := h.size
    have CT := Lib.hid (test_isClosed x _ w h fun W hW => isClosed_any x W (by omega) (hM.below hW))
    clear h hM
    go_enter Tryz.func15, Tryz.ntmps15
    go_wp2_with fail
    refine CT.out.mono ?_
    rintro e w1 ⟨rfl, b1⟩
    go_wp2_with fail
    go_ret2
    exact ⟨rfl, b1⟩
  · rw [iscR_bad h]
    have H := Lib.hid h
    clear h hM
    go_enter Tryz.func15, Tryz.ntmps15
    go_wp2_with fail
    refine (testBad_isClosed x _ sx H.out).mono ?_
    rintro e w1 ⟨rfl, b1⟩
    go_wp2_with fail
    go_ret2
    exact ⟨rfl, b1⟩

set_option maxRecDepth 100000 in
set_option maxHeartbeats 1000000 in
theorem spec_IsPrivileged (x : ByteArray) (w : World) (sx : x.size ≤ maxLen) :
    Calls Tryz.prog 18 #[.string x] w fun e w' => e = .returned (.tuple #[.bool (isprR x).1, .int .i64 (isprR x).2]) ∧ Below w.heap.size w w' := by
  by_cases h : IsW x
  · rw [isprR_ok h]
    have h1 := h.size
    have H := Lib.hid h
    have CC : Hid (∀ w, Calls Tryz.prog 41 #[.string x, .bool true] w fun e w' => e = .returned (.bool (prB (bl x))) ∧ Below w.heap.size w w') := Lib.hid fun w => (l04Closed_q x.size x true w (Nat.le_refl _) h1).mono fun e w' ⟨he, hd⟩ => ⟨he, Drawn.below hd⟩
    clear h
    go_enter Tryz.func18, Tryz.ntmps18
    go_wp2_with fail
    refine (l01Is_yes x _ H.out).mono ?_
    rintro e w1 ⟨rfl, b1⟩
    go_wp2_with fail
    refine (CC.out _).mono ?_
    rintro e w2 ⟨rfl, b2⟩
    go_wp2_with fail
    go_ret2
    exact ⟨rfl, b1.then b2⟩
  · rw [isprR_bad h]
    have H := Lib.hid h
    clear h
    go_enter Tryz.func18, Tryz.ntmps18
    go_wp2_with fail
    refine (l01Is_no x _ sx H.out).mono ?_
    rintro e w1 ⟨rfl, b1⟩
    go_wp2_with fail
    go_ret2
    exact ⟨rfl, b1⟩

set_option maxRecDepth 100000 in
set_option maxHeartbeats 1000000 in
theorem test_isPrivileged (x : ByteArray) (b : Bool) (w : World) (h : IsW x) (CF : ∀ W : World, Below w.heap.size w W → Calls Tryz.prog 42 #[.string x] W fun e w' => e = .returned (.bool b) ∧ Below W.heap.size W w') :
    Calls Tryz.prog 39 #[.string x, .func (.func 42) #[] #[]] w fun e w' => e = .returned (.tuple #[.bool b, .int .i64 0]) ∧ Below w.heap.size w w' := by
  have H := Lib.hid h
  have HF := Lib.hid CF
  clear h CF
  go_enter Tryz.func39, Tryz.ntmps39
  go_wp2_with fail
  refine (isWord_yes x _ H.out).mono ?_
  rintro e w1 ⟨rfl, b1⟩
  go_wp2_with (go_at_call 42; refine (HF.out _ b1).mono ?_; rintro e w2 ⟨rfl, b2⟩)
  go_ret2
  exact ⟨rfl, b1.then b2⟩

set_option maxRecDepth 100000 in
set_option maxHeartbeats 1000000 in
theorem testBad_isPrivileged (x : ByteArray) (w : World) (sx : x.size ≤ maxLen) (h : ¬ IsW x) :
    Calls Tryz.prog 39 #[.string x, .func (.func 42) #[] #[]] w fun e w' => e = .returned (.tuple #[.bool false, .int .i64 1]) ∧ Below w.heap.size w w' := by
  have H := Lib.hid h
  clear h
  go_enter Tryz.func39, Tryz.ntmps39
  go_wp2_with fail
  refine (isWord_not x _ sx H.out).mono ?_
  rintro e w1 ⟨rfl, b1⟩
  go_wp2_with fail
  go_ret2
  exact ⟨rfl, b1⟩

set_option maxRecDepth 100000 in
set_option maxHeartbeats 1000000 in
theorem impl_IsPrivileged (x : ByteArray) (w : World) (sx : x.size ≤ maxLen) (hM : MaxOK w) :
    Calls Tryz.prog 17 #[.string x] w fun e w' => e = .returned (.tuple #[.bool (isprR x).1, .int .i64 (isprR x).2]) ∧ Below w.heap.size w w' := by
  by_cases h : IsW x
  · rw [isprR_ok h]
    have h1 := h.size
    have CT := Lib.hid (test_isPrivileged x _ w h fun W hW => isPriv_any _ x W (Nat.le_refl _) (by omega) (hM.below hW))
    clear h hM
    go_enter Tryz.func17, Tryz.ntmps17
    go_wp2_with fail
    refine CT.out.mono ?_
    rintro e w1 ⟨rfl, b1⟩
    go_wp2_with fail
    go_ret2
    exact ⟨rfl, b1⟩
  · rw [isprR_bad h]
    have H := Lib.hid h
    clear h hM
    go_enter Tryz.func17, Tryz.ntmps17
    go_wp2_with fail
    refine (testBad_isPrivileged x _ sx H.out).mono ?_
    rintro e w1 ⟨rfl, b1⟩
    go_wp2_with fail
    go_ret2
    exact ⟨rfl, b1⟩

end Go.Proofs.YtddfdciohnabbacGreat

/-! ### DfCl -/
namespace Go.Proofs.YtddfdciohnabbacGreat
set_option linter.unusedVariables false
set_option linter.unusedSimpArgs false
open Go.RowKit

set_option maxRecDepth 100000 in
set_option maxHeartbeats 2000000 in
theorem df_DfCl (T : ByteArray → Bool) (x : ByteArray) (w : World) (h : IsW x) (CT : ∀ (z : ByteArray) (W : World), z.size ≤ 60 → Below w.heap.size w W → Calls Tryz.prog 40 #[.string z] W fun e w' => e = .returned (.bool (T z)) ∧ Below W.heap.size W w') :
    Calls Tryz.prog 43 #[.string x, .func (.func 40) #[] #[]] w fun e w' => ∃ v, e = .returned v ∧ OwnS w' w.heap.size v (dfT T x x.size) ∧ Below w.heap.size w w' := by
  obtain ⟨i0, hi, hz0, hz1, hz2⟩ := info_parts infoStr
  have h1 := h.size
  have H := Lib.hid h
  have HT := Lib.hid CT
  clear h CT
  go_enter Tryz.func43, Tryz.ntmps43
  go_wp2
  go_loopg [5, 6] x.size (fun g v i wr => ∃ m : Nat, m + g = x.size ∧ i = .int .i64 ((m : Int) + 1) ∧ OwnS wr w.heap.size v (dfT T x m) ∧ Below w.heap.size w wr)
  case atStart => exact ⟨0, by omega, rfl, OwnS.nil _ _, Below.refl _ _⟩
  case round =>
    obtain ⟨m, hm, rfl, hown, hB⟩ := hrel
    by_cases hp : m < x.size
    · obtain ⟨g, rfl⟩ : ∃ g, gk = g + 1 := ⟨gk - 1, by omega⟩
      have hpi : (m : Int) + 1 ≤ (x.size : Int) := by omega
      have CF : Hid (∀ w, Calls Tryz.prog 58 #[.string x, .int .i64 ((m : Int) + 1)] w (RetS (facK x (m + 1) (x.size - m)) 0 w)) := Lib.hid fun w => by
        have := impl_FactorsOf x (((m + 1 : Nat)) : Int) w (by unfold maxLen; omega) (by go_wf)
        rwa [factorsR_ok H.out (by omega), show x.size + 1 - (m + 1) = x.size - m by omega] at this
      have hsz : ∀ z ∈ facK x (m + 1) (x.size - m), z.size ≤ 60 := fun z hz => by rw [facK_size (by omega) hz]; omega
      have hll : 0 < (facK x (m + 1) (x.size - m)).length := List.length_pos_iff.2 fun e => by
        have := (mem_facK x (m + 1) (x.extract 0 (0 + (m + 1))) (x.size - m)).2 ⟨0, by omega, rfl⟩
        rw [e] at this; cases this
      have hl2 := facK_len x (m + 1) (x.size - m)
      have HD : Hid (dfT T x (m + 1) = dfT T x m ++ (facK x (m + 1) (x.size - m)).filter T) := Lib.hid rfl
      have hD0 := dfT_len60 T h1 (N := m) (by omega)
      generalize facK x (m + 1) (x.size - m) = L at *
      generalize dfT T x m = D at *
      have HSZ := Lib.hid hsz
      clear hsz
      go_wp2_with fail
      refine (CF.out _).mono ?_
      rintro e w2 ⟨v2, rfl, o2, b2⟩
      have hwr := hB.size
      have hlt5 := fun k hk => (OwnS.lt hown k hk).2
      obtain ⟨g2, cp, rfl, hBg, hg2, hc, hmx, _, _⟩ := o2.row hll
      have hne : u5.ownBlock ≠ some g2 := fun e => by have := hlt5 _ e; omega
      have hown2 := hown.below b2
      have hB2 := hB.then b2
      clear hown hB b2 hlt5
      go_wp2_with fail
      go_loopg [5, 25] L.length (fun g3 v i wr => ∃ k : Nat, k + g3 = L.length ∧ i = .int .i64 (k : Int) ∧ OwnS wr w.heap.size v (D ++ (L.take k).filter T) ∧ v.ownBlock ≠ some g2 ∧ g2 < wr.heap.size ∧ OwnS wr w.heap.size (.slice (some ⟨g2, 0, none⟩) L.length cp) L ∧ Below w.heap.size w wr)
      case atStart => exact ⟨0, by omega, rfl, by rw [List.take_zero]; simpa using hown2, hne, hg2, o2.base hwr, hB2⟩
      case round =>
        clear hown2 hne hg2 o2 hB2
        obtain ⟨k, hk, rfl, hown, hne, hg2, oL, hB⟩ := hrel
        by_cases hpk : k < L.length
        · obtain ⟨g3, rfl⟩ : ∃ g, gk = g + 1 := ⟨gk - 1, by omega⟩
          have hkc : k < cp := by omega
          have hfl := List.length_filter_le T (L.take k)
          have hlt : (L.take k).length = k := by rw [List.length_take]; omega
          have cell : wr.cell? ⟨g2, k, none⟩ = some (.string (L[k]'hpk)) := by
            rw [oL.cellAt k (by omega), List.getElem?_map, List.getElem?_eq_getElem hpk]; rfl
          have hzs := HSZ.out (L[k]'hpk) (List.getElem_mem _)
          have hst : L.take (k + 1) = L.take k ++ [L[k]'hpk] := List.take_succ_eq_append_getElem hpk
          have CT := fun W hW => HT.out (L[k]'hpk) W hzs hW
          by_cases ht : T (L[k]'hpk) = true
          · have HN : Hid (D ++ (L.take (k + 1)).filter T = D ++ (L.take k).filter T ++ [L[k]'hpk]) := Lib.hid (by rw [hst, List.filter_append, List.append_assoc]; simp [ht])
            rw [ht] at CT
            have CT2 := Lib.hid CT
            clear CT ht hst
            generalize L[k]'hpk = z at *
            have hll2 : (D ++ (L.take k).filter T).length ≤ 3660 := by rw [List.length_append]; omega
            generalize D ++ (L.take k).filter T = M at *
            go_wp2_with (first | (go_at_call 40; refine (CT2.out _ hB).mono ?_; rintro e w3 ⟨rfl, b3⟩; have hown := hown.below b3; have hB3 := hB.then b3; have hbz3 := hB3.size; have oL3 := oL.below b3; have hg3 : g2 < w3.heap.size := Nat.lt_of_lt_of_le hg2 b3.size; clear oL hB b3 hg2) | (at_builtin; refine wpList_append_own_at _ rfl _ _ 25 rfl w.heap.size 9 i0 (.string ⟨#[]⟩) 1 16 Tryz.underlying25 hi hz0 hz1 hz2 rfl (by decide) _ _ _ rfl (hown.alloc _) ⟨_, 0, none⟩ 1 1 [.string z] rfl rfl (cell_new _ _ _) (by intro u hu; simp at hu; subst hu; rfl) (by unfold maxLen; omega) (by omega) (by simp; omega) ?_; intro v' w4 hown' hgrow _ hat))
            have hg4 : g2 < w4.heap.size := by have := hgrow.size; simp at this; omega
            have oL4 : OwnS w4 w.heap.size (.slice (some ⟨g2, 0, none⟩) L.length cp) L := World.ownsRow.kept (oL3.alloc _) hgrow (.inr fun e => hne e.symm)
            have hne' : v'.ownBlock ≠ some g2 := by
              rcases hat with e | e
              · rw [e]; exact hne
              · rw [e]; intro e2; have := Option.some.inj e2; simp at this; omega
            have hB4 : Below w.heap.size w w4 := (hB3.alloc hbz3 _).grown hgrow (by simp; omega) (fun q hq => (hown.lt q hq).1)
            clear hat oL3
            go_roundg g3
            case measure => omega
            case rel => exact ⟨k + 1, by omega, by go_num, by unfold OwnS; rw [HN.out, List.length_append, List.map_append]; exact hown', hne', hg4, oL4, hB4⟩
          · have ht2 : T (L[k]'hpk) = false := by simpa using ht
            have HN : Hid (D ++ (L.take (k + 1)).filter T = D ++ (L.take k).filter T) := Lib.hid (by rw [hst, List.filter_append]; simp [ht2])
            rw [ht2] at CT
            have CT2 := Lib.hid CT
            clear CT ht ht2 hst
            generalize L[k]'hpk = z at *
            go_wp2_with (go_at_call 40; refine (CT2.out _ hB).mono ?_; rintro e w3 ⟨rfl, b3⟩)
            go_roundg g3
            case measure => omega
            case rel => exact ⟨k + 1, by omega, by go_num, by rw [HN.out]; exact hown.below b3, hne, Nat.lt_of_lt_of_le hg2 b3.size, oL.below b3, hB.then b3⟩
        · have hkl : k = L.length := by omega
          have HO : Hid (OwnS wr w.heap.size u5 (dfT T x (m + 1))) := Lib.hid (by rw [HD.out]; rwa [hkl, List.take_length] at hown)
          clear hown oL
          have hpk2 : ¬ (k : Int) < (L.length : Int) := by omega
          go_wp2
          go_roundg g
          case measure => omega
          case rel => exact ⟨m + 1, by omega, by go_num, HO.out, hB⟩
    · have hpi : ¬ (m : Int) + 1 ≤ (x.size : Int) := by omega
      have hke : m = x.size := by omega
      have HO := Lib.hid hown
      clear hown
      go_wp2
      go_ret
      rw [← hke]
      exact ⟨_, rfl, HO.out, hB⟩

end Go.Proofs.YtddfdciohnabbacGreat

/-! ### DfPr -/
namespace Go.Proofs.YtddfdciohnabbacGreat
set_option linter.unusedVariables false
set_option linter.unusedSimpArgs false
open Go.RowKit

set_option maxRecDepth 100000 in
set_option maxHeartbeats 2000000 in
theorem df_DfPr (T : ByteArray → Bool) (x : ByteArray) (w : World) (h : IsW x) (CT : ∀ (z : ByteArray) (W : World), z.size ≤ 60 → Below w.heap.size w W → Calls Tryz.prog 42 #[.string z] W fun e w' => e = .returned (.bool (T z)) ∧ Below W.heap.size W w') :
    Calls Tryz.prog 43 #[.string x, .func (.func 42) #[] #[]] w fun e w' => ∃ v, e = .returned v ∧ OwnS w' w.heap.size v (dfT T x x.size) ∧ Below w.heap.size w w' := by
  obtain ⟨i0, hi, hz0, hz1, hz2⟩ := info_parts infoStr
  have h1 := h.size
  have H := Lib.hid h
  have HT := Lib.hid CT
  clear h CT
  go_enter Tryz.func43, Tryz.ntmps43
  go_wp2
  go_loopg [5, 6] x.size (fun g v i wr => ∃ m : Nat, m + g = x.size ∧ i = .int .i64 ((m : Int) + 1) ∧ OwnS wr w.heap.size v (dfT T x m) ∧ Below w.heap.size w wr)
  case atStart => exact ⟨0, by omega, rfl, OwnS.nil _ _, Below.refl _ _⟩
  case round =>
    obtain ⟨m, hm, rfl, hown, hB⟩ := hrel
    by_cases hp : m < x.size
    · obtain ⟨g, rfl⟩ : ∃ g, gk = g + 1 := ⟨gk - 1, by omega⟩
      have hpi : (m : Int) + 1 ≤ (x.size : Int) := by omega
      have CF : Hid (∀ w, Calls Tryz.prog 58 #[.string x, .int .i64 ((m : Int) + 1)] w (RetS (facK x (m + 1) (x.size - m)) 0 w)) := Lib.hid fun w => by
        have := impl_FactorsOf x (((m + 1 : Nat)) : Int) w (by unfold maxLen; omega) (by go_wf)
        rwa [factorsR_ok H.out (by omega), show x.size + 1 - (m + 1) = x.size - m by omega] at this
      have hsz : ∀ z ∈ facK x (m + 1) (x.size - m), z.size ≤ 60 := fun z hz => by rw [facK_size (by omega) hz]; omega
      have hll : 0 < (facK x (m + 1) (x.size - m)).length := List.length_pos_iff.2 fun e => by
        have := (mem_facK x (m + 1) (x.extract 0 (0 + (m + 1))) (x.size - m)).2 ⟨0, by omega, rfl⟩
        rw [e] at this; cases this
      have hl2 := facK_len x (m + 1) (x.size - m)
      have HD : Hid (dfT T x (m + 1) = dfT T x m ++ (facK x (m + 1) (x.size - m)).filter T) := Lib.hid rfl
      have hD0 := dfT_len60 T h1 (N := m) (by omega)
      generalize facK x (m + 1) (x.size - m) = L at *
      generalize dfT T x m = D at *
      have HSZ := Lib.hid hsz
      clear hsz
      go_wp2_with fail
      refine (CF.out _).mono ?_
      rintro e w2 ⟨v2, rfl, o2, b2⟩
      have hwr := hB.size
      have hlt5 := fun k hk => (OwnS.lt hown k hk).2
      obtain ⟨g2, cp, rfl, hBg, hg2, hc, hmx, _, _⟩ := o2.row hll
      have hne : u5.ownBlock ≠ some g2 := fun e => by have := hlt5 _ e; omega
      have hown2 := hown.below b2
      have hB2 := hB.then b2
      clear hown hB b2 hlt5
      go_wp2_with fail
      go_loopg [5, 25] L.length (fun g3 v i wr => ∃ k : Nat, k + g3 = L.length ∧ i = .int .i64 (k : Int) ∧ OwnS wr w.heap.size v (D ++ (L.take k).filter T) ∧ v.ownBlock ≠ some g2 ∧ g2 < wr.heap.size ∧ OwnS wr w.heap.size (.slice (some ⟨g2, 0, none⟩) L.length cp) L ∧ Below w.heap.size w wr)
      case atStart => exact ⟨0, by omega, rfl, by rw [List.take_zero]; simpa using hown2, hne, hg2, o2.base hwr, hB2⟩
      case round =>
        clear hown2 hne hg2 o2 hB2
        obtain ⟨k, hk, rfl, hown, hne, hg2, oL, hB⟩ := hrel
        by_cases hpk : k < L.length
        · obtain ⟨g3, rfl⟩ : ∃ g, gk = g + 1 := ⟨gk - 1, by omega⟩
          have hkc : k < cp := by omega
          have hfl := List.length_filter_le T (L.take k)
          have hlt : (L.take k).length = k := by rw [List.length_take]; omega
          have cell : wr.cell? ⟨g2, k, none⟩ = some (.string (L[k]'hpk)) := by
            rw [oL.cellAt k (by omega), List.getElem?_map, List.getElem?_eq_getElem hpk]; rfl
          have hzs := HSZ.out (L[k]'hpk) (List.getElem_mem _)
          have hst : L.take (k + 1) = L.take k ++ [L[k]'hpk] := List.take_succ_eq_append_getElem hpk
          have CT := fun W hW => HT.out (L[k]'hpk) W hzs hW
          by_cases ht : T (L[k]'hpk) = true
          · have HN : Hid (D ++ (L.take (k + 1)).filter T = D ++ (L.take k).filter T ++ [L[k]'hpk]) := Lib.hid (by rw [hst, List.filter_append, List.append_assoc]; simp [ht])
            rw [ht] at CT
            have CT2 := Lib.hid CT
            clear CT ht hst
            generalize L[k]'hpk = z at *
            have hll2 : (D ++ (L.take k).filter T).length ≤ 3660 := by rw [List.length_append]; omega
            generalize D ++ (L.take k).filter T = M at *
            go_wp2_with (first | (go_at_call 42; refine (CT2.out _ hB).mono ?_; rintro e w3 ⟨rfl, b3⟩; have hown := hown.below b3; have hB3 := hB.then b3; have hbz3 := hB3.size; have oL3 := oL.below b3; have hg3 : g2 < w3.heap.size := Nat.lt_of_lt_of_le hg2 b3.size; clear oL hB b3 hg2) | (at_builtin; refine wpList_append_own_at _ rfl _ _ 25 rfl w.heap.size 9 i0 (.string ⟨#[]⟩) 1 16 Tryz.underlying25 hi hz0 hz1 hz2 rfl (by decide) _ _ _ rfl (hown.alloc _) ⟨_, 0, none⟩ 1 1 [.string z] rfl rfl (cell_new _ _ _) (by intro u hu; simp at hu; subst hu; rfl) (by unfold maxLen; omega) (by omega) (by simp; omega) ?_; intro v' w4 hown' hgrow _ hat))
            have hg4 : g2 < w4.heap.size := by have := hgrow.size; simp at this; omega
            have oL4 : OwnS w4 w.heap.size (.slice (some ⟨g2, 0, none⟩) L.length cp) L := World.ownsRow.kept (oL3.alloc _) hgrow (.inr fun e => hne e.symm)
            have hne' : v'.ownBlock ≠ some g2 := by
              rcases hat with e | e
              · rw [e]; exact hne
              · rw [e]; intro e2; have := Option.some.inj e2; simp at this; omega
            have hB4 : Below w.heap.size w w4 := (hB3.alloc hbz3 _).grown hgrow (by simp; omega) (fun q hq => (hown.lt q hq).1)
            clear hat oL3
            go_roundg g3
            case measure => omega
            case rel => exact ⟨k + 1, by omega, by go_num, by unfold OwnS; rw [HN.out, List.length_append, List.map_append]; exact hown', hne', hg4, oL4, hB4⟩
          · have ht2 : T (L[k]'hpk) = false := by simpa using ht
            have HN : Hid (D ++ (L.take (k + 1)).filter T = D ++ (L.take k).filter T) := Lib.hid (by rw [hst, List.filter_append]; simp [ht2])
            rw [ht2] at CT
            have CT2 := Lib.hid CT
            clear CT ht ht2 hst
            generalize L[k]'hpk = z at *
            go_wp2_with (go_at_call 42; refine (CT2.out _ hB).mono ?_; rintro e w3 ⟨rfl, b3⟩)
            go_roundg g3
            case measure => omega
            case rel => exact ⟨k + 1, by omega, by go_num, by rw [HN.out]; exact hown.below b3, hne, Nat.lt_of_lt_of_le hg2 b3.size, oL.below b3, hB.then b3⟩
        · have hkl : k = L.length := by omega
          have HO : Hid (OwnS wr w.heap.size u5 (dfT T x (m + 1))) := Lib.hid (by rw [HD.out]; rwa [hkl, List.take_length] at hown)
          clear hown oL
          have hpk2 : ¬ (k : Int) < (L.length : Int) := by omega
          go_wp2
          go_roundg g
          case measure => omega
          case rel => exact ⟨m + 1, by omega, by go_num, HO.out, hB⟩
    · have hpi : ¬ (m : Int) + 1 ≤ (x.size : Int) := by omega
      have hke : m = x.size := by omega
      have HO := Lib.hid hown
      clear hown
      go_wp2
      go_ret
      rw [← hke]
      exact ⟨_, rfl, HO.out, hB⟩

end Go.Proofs.YtddfdciohnabbacGreat

/-! ### CcI -/
namespace Go.Proofs.YtddfdciohnabbacGreat
set_option linter.unusedVariables false
set_option linter.unusedSimpArgs false
open Go.RowKit

theorem cell_two (W : World) (a b : Value) (t : TypeId) : (W.alloc (.cells #[a, b] t)).cell? ⟨W.heap.size, 0, none⟩ = some a ∧ (W.alloc (.cells #[a, b] t)).cell? ⟨W.heap.size, 1, none⟩ = some b := by
  have e : (W.alloc (.cells #[a, b] t)).heap[W.heap.size]? = some (.cells #[a, b] t) := World.alloc_heap_new W _
  constructor <;> (unfold World.cell?; rw [show (⟨W.heap.size, _, none⟩ : Addr).block = W.heap.size from rfl, e]; rfl)
theorem OwnS.formC {w : World} {B : Nat} {v : Value} {L : List ByteArray} (h : OwnS w B v L) : ∃ a c, v = .slice a L.length c := by
  rcases own_forms h with ⟨rfl, h0, _⟩ | ⟨g, cap, rfl, _⟩
  · exact ⟨_, _, by rw [h0]⟩
  · exact ⟨_, _, rfl⟩

set_option maxRecDepth 100000 in
set_option maxHeartbeats 1000000 in
theorem impl_CountClosed (x : ByteArray) (w : World) (sx : x.size ≤ maxLen) (hM : MaxOK w) :
    Calls Tryz.prog 20 #[.string x] w fun e w' => e = .returned (.tuple #[.int .i64 (ccR x).1, .int .i64 (ccR x).2.1, .int .i64 (ccR x).2.2]) ∧ Below w.heap.size w w' := by
  by_cases h : IsW x
  · rw [ccR_ok h]
    obtain ⟨i0, hi, hz0, hz1, hz2⟩ := info_parts infoI64
    have CC : Hid (∀ w', MaxOK w' → Calls Tryz.prog 43 #[.string x, .func (.func 40) #[] #[]] w' fun e w'' => ∃ v, e = .returned v ∧ OwnS w'' w'.heap.size v (dfT clT x x.size) ∧ Below w'.heap.size w' w'') := Lib.hid fun w' hw => df_DfCl clT x w' h (fun z W hz hW => isClosed_any z W hz (hw.below hW))
    have CP : Hid (∀ w', MaxOK w' → Calls Tryz.prog 43 #[.string x, .func (.func 42) #[] #[]] w' fun e w'' => ∃ v, e = .returned v ∧ OwnS w'' w'.heap.size v (dfT prT x x.size) ∧ Below w'.heap.size w' w'') := Lib.hid fun w' hw => df_DfPr prT x w' h (fun z W hz hW => isPriv_any 60 z W hz hz (hw.below hW))
    have hc := dfT_len60 clT h.size (Nat.le_refl x.size)
    have hp := dfT_len60 prT h.size (Nat.le_refl x.size)
    generalize dfT clT x x.size = LC at *
    generalize dfT prT x x.size = LP at *
    have H := Lib.hid h
    have HM := Lib.hid hM
    clear h hM
    go_enter Tryz.func20, Tryz.ntmps20
    go_wp2_with (first | (go_at_call 27; refine (isWord_yes x _ H.out).mono ?_; rintro e w1 ⟨rfl, b1⟩; have hb1 := b1.size) | (at_make; refine wpList_make_full _ rfl _ _ 42 rfl w1.heap.size 2 i0 (.int .i64 0) 1 Tryz.underlying42 hi hz0 hz1 .i64 .i64 2 2 2 rfl rfl rfl rfl (by rw [hz2]; decide) (by decide) (by simp) ?_; intro w2 hown hgrow))
    have hs1 : (w1.alloc (.cells #[.func (.func 40) #[] #[], .func (.func 42) #[] #[]] 54)).heap.size = w1.heap.size + 1 := by simp
    have B2 : Below (w1.heap.size + 1) (w1.alloc (.cells #[.func (.func 40) #[] #[], .func (.func 42) #[] #[]] 54)) w2 := (Below.refl _ _).grown hgrow (by omega) (fun _ e => by cases e)
    have k0 : w2.cell? ⟨w1.heap.size, 0, none⟩ = some (.func (.func 40) #[] #[]) := (B2.cell (p := ⟨w1.heap.size, 0, none⟩) (by show w1.heap.size < w1.heap.size + 1; omega)).trans (cell_two w1 _ _ _).1
    have k1 : w2.cell? ⟨w1.heap.size, 1, none⟩ = some (.func (.func 42) #[] #[]) := (B2.cell (p := ⟨w1.heap.size, 1, none⟩) (by show w1.heap.size < w1.heap.size + 1; omega)).trans (cell_two w1 _ _ _).2
    have hr : w2.ownsRow w1.heap.size 2 1 (.slice (some ⟨w1.heap.size + 1, 0, none⟩) 2 2) 2 [.int .i64 0, .int .i64 0] := by
      have h2 := hown
      rw [hs1, show (Value.int .i64 0).cells = #[Value.int .i64 0] from rfl, toList_madeCells_one] at h2
      exact h2
    have l2 := (World.ownsRow.lt hr (w1.heap.size + 1) rfl).2
    have B2' : Below w1.heap.size w1 w2 := (Below.new w1 _).trans (B2.mono (by omega))
    have M2 := (HM.out.below b1).below B2'
    clear hown hgrow B2 hs1
    refine wp_loop_rounds 3 ?_
    rw [rounds_succ]
    go_wp2_with (go_at_call 43; refine (CC.out _ M2).mono ?_; rintro e w3 ⟨v3, rfl, o3, b3⟩; obtain ⟨a3, c3, rfl⟩ := o3.formC; have r3 := own_below hr b3; have f3 := r3.frozenAt 0; have c30 := r3.cellAt 0 (by decide); have hst := (r3.stored 0 (.int .i64 (LC.length : Int))).1)
    have l3 : w1.heap.size + 1 < w3.heap.size := Nat.lt_of_lt_of_le l2 b3.size
    have k13 : w3.cell? ⟨w1.heap.size, 1, none⟩ = some (.func (.func 42) #[] #[]) := (b3.cell (p := ⟨w1.heap.size, 1, none⟩) (by show w1.heap.size < w2.heap.size; omega)).trans k1
    have B3 := B2'.then b3
    have M3 := M2.below b3
    have g3 : w3.grownBy (w3.setCell ⟨w1.heap.size + 1, 0, none⟩ (.int .i64 (LC.length : Int))) (some (w1.heap.size + 1)) := grown_set (grown_refl w3 (some (w1.heap.size + 1))) 0 _
    have B4 : Below w1.heap.size w1 (w3.setCell ⟨w1.heap.size + 1, 0, none⟩ (.int .i64 (LC.length : Int))) := B3.setCell (p := ⟨w1.heap.size + 1, 0, none⟩) (by show w1.heap.size ≤ w1.heap.size + 1; omega) _
    have k14 : (w3.setCell ⟨w1.heap.size + 1, 0, none⟩ (.int .i64 (LC.length : Int))).cell? ⟨w1.heap.size, 1, none⟩ = some (.func (.func 42) #[] #[]) := by
      rw [← k13]
      unfold World.cell?
      rw [show (⟨w1.heap.size, 1, none⟩ : Addr).block = w1.heap.size from rfl, g3.block w1.heap.size (by omega) (fun e => by have := Option.some.inj e; omega)]
    have M4 := ((HM.out.below b1).below B4)
    have l4 : w1.heap.size + 1 < (w3.setCell ⟨w1.heap.size + 1, 0, none⟩ (.int .i64 (LC.length : Int))).heap.size := by simpa [World.setCell] using l3
    generalize w3.setCell ⟨w1.heap.size + 1, 0, none⟩ (.int .i64 (LC.length : Int)) = w4 at *
    clear k0 k1 hr M2 b3 r3 f3 c30 l3 k13 B3 M3 g3 o3 B2' l2
    rw [rounds_succ]
    go_wp2_with (go_at_call 43; refine (CP.out _ M4).mono ?_; rintro e w5 ⟨v5, rfl, o5, b5⟩; obtain ⟨a5, c5, rfl⟩ := o5.formC; have r5 := own_below hst b5; have f5 := r5.frozenAt 1; have c51 := r5.cellAt 1 (by decide); have hst2 := (r5.stored 1 (.int .i64 (LP.length : Int))).1)
    have B6 : Below w1.heap.size w1 (w5.setCell ⟨w1.heap.size + 1, 1, none⟩ (.int .i64 (LP.length : Int))) := (B4.then b5).setCell (p := ⟨w1.heap.size + 1, 1, none⟩) (by show w1.heap.size ≤ w1.heap.size + 1; omega) _
    have d0 := hst2.cellAt 0 (by decide)
    have d1 := hst2.cellAt 1 (by decide)
    generalize w5.setCell ⟨w1.heap.size + 1, 1, none⟩ (.int .i64 (LP.length : Int)) = w6 at *
    clear hst hst2 k14 M4 l4 r5 f5 c51 b5 o5 B4
    simp at d0 d1
    rw [rounds_succ]
    go_wp2
    go_quiet (fail)
    go_wp2
    go_ret3
    exact ⟨rfl, (b1.then B6).drewN _⟩
  · rw [ccR_bad h]
    have H := Lib.hid h
    clear h
    go_enter Tryz.func20, Tryz.ntmps20
    go_wp2_with (go_at_call 27; refine (isWord_not x _ sx H.out).mono ?_; rintro e w1 ⟨rfl, b1⟩)
    go_ret3
    exact ⟨rfl, b1⟩

end Go.Proofs.YtddfdciohnabbacGreat

/-! ### CcS -/
namespace Go.Proofs.YtddfdciohnabbacGreat
set_option linter.unusedVariables false
set_option linter.unusedSimpArgs false
open Go.RowKit

theorem facK_hit (x : ByteArray) (m k : Nat) : facK x m (k + 1) = insW (facK x m k) (x.extract k (k + m)) := rfl
theorem clpB_cl (l : List UInt8) : clpB false l = clB l := rfl
theorem clpB_pr (l : List UInt8) : clpB true l = prB l := rfl
theorem filter_snoc {T : ByteArray → Bool} {L : List ByteArray} {k : Nat} (h : k < L.length) : ((L.take (k + 1)).filter T).length = ((L.take k).filter T).length + if T (L[k]'h) = true then 1 else 0 := by
  rw [List.take_succ_eq_append_getElem h, List.filter_append, List.length_append]
  by_cases c : T (L[k]'h) = true
  · simp [c]
  · simp [c]

theorem l04Closed_b (y : ByteArray) (p : Bool) (w : World) (hy : y.size ≤ 60) :
    Calls Tryz.prog 41 #[.string y, .bool p] w fun e w' => e = .returned (.bool (clpB p (bl y))) ∧ Below w.heap.size w w' := by
  refine (l04Closed_q 60 y p w hy hy).mono ?_
  rintro e w' ⟨rfl, n, rfl⟩
  exact ⟨rfl, (Below.refl _ _).drewN n⟩

set_option maxRecDepth 100000 in
set_option maxHeartbeats 1000000 in
theorem spec_CountClosed (x : ByteArray) (w : World) (sx : x.size ≤ maxLen) :
    Calls Tryz.prog 21 #[.string x] w fun e w' => e = .returned (.tuple #[.int .i64 (ccR x).1, .int .i64 (ccR x).2.1, .int .i64 (ccR x).2.2]) ∧ Below w.heap.size w w' := by
  by_cases h : IsW x
  · rw [ccR_ok h]
    obtain ⟨i0, hi, hz0, hz1, hz2⟩ := info_parts infoStr
    have hx := h.size
    have H := Lib.hid h
    clear h
    go_enter Tryz.func21, Tryz.ntmps21
    go_wp2_with fail
    refine (l01Is_yes x _ H.out).mono ?_
    rintro e w1 ⟨rfl, b1⟩
    go_wp2_with fail
    go_loopg [5, 6, 7] x.size (fun g c p v wr => ∃ m : Nat, m + g = x.size ∧ c = .int .i64 ((dfT clT x m).length : Int) ∧ p = .int .i64 ((dfT prT x m).length : Int) ∧ v = .int .i64 ((m : Int) + 1) ∧ Below w.heap.size w wr)
    case atStart => exact ⟨0, by omega, rfl, rfl, rfl, b1⟩
    case round =>
      clear b1
      obtain ⟨m, hm, rfl, rfl, rfl, hB⟩ := hrel
      have hc0 := dfT_len60 clT hx (N := m) (by omega)
      have hp0 := dfT_len60 prT hx (N := m) (by omega)
      by_cases hp : m < x.size
      · obtain ⟨g, rfl⟩ : ∃ g, gk = g + 1 := ⟨gk - 1, by omega⟩
        have hpi : (m : Int) + 1 ≤ (x.size : Int) := by omega
        have HDC : Hid ((dfT clT x (m + 1)).length = (dfT clT x m).length + ((facK x (m + 1) (x.size - m)).filter clT).length) := Lib.hid (by rw [dfT, List.length_append])
        have HDP : Hid ((dfT prT x (m + 1)).length = (dfT prT x m).length + ((facK x (m + 1) (x.size - m)).filter prT).length) := Lib.hid (by rw [dfT, List.length_append])
        generalize (dfT clT x m).length = dc at *
        generalize (dfT prT x m).length = dp at *
        have hbz := hB.size
        have hB0 := hB.then (Below.new wr (.cells #[] 9))
        have hE0 : OwnS (wr.alloc (.cells #[] 9)) wr.heap.size (.slice (some ⟨wr.heap.size, 0, none⟩) 0 0) [] := World.ownsRow_lit wr #[] 0 (Nat.le_refl _) (by decide) (by simp)
        obtain ⟨B0, hB0e⟩ : ∃ B0, B0 = wr.heap.size := ⟨_, rfl⟩
        rw [← hB0e] at hE0
        have hB0l : B0 ≤ (wr.alloc (.cells #[] 9)).heap.size := by simp; omega
        have HB0 := Lib.hid hB0e
        clear hB0e
        go_wp2
        go_loopg [8, 9] (x.size - m) (fun g2 v i wr' => ∃ k g0 cap : Nat, k + g2 = x.size - m ∧ i = .int .i64 (k : Int) ∧ v = .slice (some ⟨g0, 0, none⟩) (facK x (m + 1) k).length cap ∧ OwnS wr' B0 (.slice (some ⟨g0, 0, none⟩) (facK x (m + 1) k).length cap) (facK x (m + 1) k) ∧ B0 ≤ wr'.heap.size ∧ Below w.heap.size w wr')
        case atStart => exact ⟨0, wr.heap.size, 0, by omega, rfl, rfl, by rw [HB0.out] at hE0 ⊢; exact hE0, hB0l, hB0⟩
        case round =>
          clear hB hbz hB0 hE0 hB0l HB0
          obtain ⟨k, g0, cap, hk, rfl, rfl, hownE, hBE, hB⟩ := hrel
          have hlen := facK_len x (m + 1) k
          by_cases hpk : k + (m + 1) ≤ x.size
          · obtain ⟨g2, rfl⟩ : ∃ g, gk = g + 1 := ⟨gk - 1, by omega⟩
            have hle : (k : Int) + ((m : Int) + 1) ≤ (x.size : Int) := by omega
            have hsl : ∀ W, (Instr.slice 9 (.string x) (some (.int .i64 (k : Int))) (some (.int .i64 ((k : Int) + ((m : Int) + 1)))) none).run Tryz.prog W = .ok (.string (x.extract k (k + (m + 1)))) W := fun W => slice_mid x k (m + 1) hpk W
            have hes : (x.extract k (k + (m + 1))).size ≤ 60 := by simp; omega
            have HN := Lib.hid (facK_hit x (m + 1) k)
            have HA := Lib.hid (facK_asc x (m + 1) k)
            generalize x.extract k (k + (m + 1)) = y at *
            generalize facK x (m + 1) k = L at *
            go_wp2_with (go_at_call 44; refine (l01Put_any B0 g0 cap L y _ hownE hBE HA.out (by omega) hes).mono ?_; rintro e w3 ⟨g3, cap3, rfl, hownE3, b3⟩)
            go_roundg g2
            case measure => omega
            case rel => exact ⟨k + 1, g3, cap3, by omega, by go_num, by rw [HN.out], by rw [HN.out]; exact hownE3, Nat.le_trans hBE b3.size, hB.then b3⟩
          · have hke : k = x.size - m := by omega
            have hle : ¬ (k : Int) + ((m : Int) + 1) ≤ (x.size : Int) := by omega
            have HFZ : Hid (∀ z ∈ facK x (m + 1) k, z.size ≤ 60) := Lib.hid fun z hz => by rw [facK_size (by omega) hz]; omega
            have HE : Hid (facK x (m + 1) k = facK x (m + 1) (x.size - m)) := Lib.hid (by rw [hke])
            generalize facK x (m + 1) k = L at *
            have hbz := hB.size
            go_wp2
            go_loopg [5, 6, 10] L.length (fun g3 c p v wr' => ∃ j : Nat, j + g3 = L.length ∧ c = .int .i64 ((dc + ((L.take j).filter clT).length : Nat) : Int) ∧ p = .int .i64 ((dp + ((L.take j).filter prT).length : Nat) : Int) ∧ v = .int .i64 (j : Int) ∧ OwnS wr' B0 (.slice (some ⟨g0, 0, none⟩) L.length cap) L ∧ Below w.heap.size w wr')
            case atStart => exact ⟨0, by omega, by simp, by simp, rfl, hownE, hB⟩
            case round =>
              clear hownE hBE hB hbz
              obtain ⟨j, hj, rfl, rfl, rfl, hownE, hB⟩ := hrel
              have hf1 := List.length_filter_le clT (L.take j)
              have hf2 := List.length_filter_le prT (L.take j)
              have hlt : (L.take j).length ≤ L.length := by rw [List.length_take]; omega
              by_cases hpj : j < L.length
              · obtain ⟨g3, rfl⟩ : ∃ g, gk = g + 1 := ⟨gk - 1, by omega⟩
                have hji : (j : Int) < (L.length : Int) := by omega
                obtain ⟨g9, c9, e9, _, hg9, hc9, _, cell9, _⟩ := hownE.row (by omega)
                obtain ⟨rfl, rfl⟩ : g0 = g9 ∧ cap = c9 := by injection e9 with e1 _ e2; exact ⟨by injection e1 with e1; injection e1, e2⟩
                have cell := cell9 j hpj
                have hjc : j < cap := by omega
                have CC := Lib.hid fun p w => l04Closed_b (L[j]'hpj) p w (HFZ.out _ (List.getElem_mem _))
                have HS1 := Lib.hid (filter_snoc (T := clT) hpj)
                have HS2 := Lib.hid (filter_snoc (T := prT) hpj)
                obtain ⟨q1, hq1⟩ : ∃ q, ((L.take j).filter clT).length = q := ⟨_, rfl⟩
                obtain ⟨q2, hq2⟩ : ∃ q, ((L.take j).filter prT).length = q := ⟨_, rfl⟩
                have e1 : clpB false (bl (L[j]'hpj)) = clT (L[j]'hpj) := rfl
                have e2 : clpB true (bl (L[j]'hpj)) = prT (L[j]'hpj) := rfl
                rw [hq1] at HS1 hf1 ⊢
                rw [hq2] at HS2 hf2 ⊢
                clear e9 cell9 hq1 hq2
                cases h1 : clT (L[j]'hpj) <;> cases h2 : prT (L[j]'hpj)
                all_goals
                  rw [h1] at e1 HS1
                  rw [h2] at e2 HS2
                  clear h1 h2
                  generalize L[j]'hpj = y at *
                  go_wp2_with (go_at_call 41; refine (CC.out _ _).mono ?_; rintro e w3 ⟨rfl, b3⟩; have cell := ((bcell b3).1 g0 j hg9).trans cell; have hg9 := Nat.lt_of_lt_of_le hg9 b3.size; have hownE := hownE.below b3; have hB := hB.then b3; clear b3)
                  go_roundg g3
                  case measure => omega
                  case rel => exact ⟨j + 1, by omega, by rw [HS1.out]; go_num, by rw [HS2.out]; go_num, by go_num, hownE, hB⟩
              · have hje : j = L.length := by omega
                have hji : ¬ (j : Int) < (L.length : Int) := by omega
                have HC1 : Hid (dc + ((L.take j).filter clT).length = (dfT clT x (m + 1)).length) := Lib.hid (by rw [HDC.out, hje, List.take_length, HE.out])
                have HC2 : Hid (dp + ((L.take j).filter prT).length = (dfT prT x (m + 1)).length) := Lib.hid (by rw [HDP.out, hje, List.take_length, HE.out])
                rw [HC1.out, HC2.out]
                go_wp2
                go_roundg g
                case measure => omega
                case rel => exact ⟨m + 1, by omega, rfl, rfl, by go_num, hB⟩
      · have hpi : ¬ (m : Int) + 1 ≤ (x.size : Int) := by omega
        have hke : m = x.size := by omega
        rw [hke]
        rw [hke] at hpi
        go_wp2
        go_ret3
        exact ⟨rfl, hB⟩
  · rw [ccR_bad h]
    have H := Lib.hid h
    clear h
    go_enter Tryz.func21, Tryz.ntmps21
    go_wp2_with (go_at_call 31; refine (l01Is_no x _ sx H.out).mono ?_; rintro e w1 ⟨rfl, b1⟩)
    go_ret3
    exact ⟨rfl, b1⟩

end Go.Proofs.YtddfdciohnabbacGreat

/-! ### DfPal -/
namespace Go.Proofs.YtddfdciohnabbacGreat
set_option linter.unusedVariables false
set_option linter.unusedSimpArgs false
open Go.RowKit

set_option maxRecDepth 100000 in
set_option maxHeartbeats 2000000 in
theorem df_DfPal (T : ByteArray → Bool) (x : ByteArray) (w : World) (h : IsW x) (CT : ∀ (z : ByteArray) (W : World), z.size ≤ 60 → Below w.heap.size w W → Calls Tryz.prog 45 #[.string z] W fun e w' => e = .returned (.bool (T z)) ∧ Below W.heap.size W w') :
    Calls Tryz.prog 43 #[.string x, .func (.func 45) #[] #[]] w fun e w' => ∃ v, e = .returned v ∧ OwnS w' w.heap.size v (dfT T x x.size) ∧ Below w.heap.size w w' := by
  obtain ⟨i0, hi, hz0, hz1, hz2⟩ := info_parts infoStr
  have h1 := h.size
  have H := Lib.hid h
  have HT := Lib.hid CT
  clear h CT
  go_enter Tryz.func43, Tryz.ntmps43
  go_wp2
  go_loopg [5, 6] x.size (fun g v i wr => ∃ m : Nat, m + g = x.size ∧ i = .int .i64 ((m : Int) + 1) ∧ OwnS wr w.heap.size v (dfT T x m) ∧ Below w.heap.size w wr)
  case atStart => exact ⟨0, by omega, rfl, OwnS.nil _ _, Below.refl _ _⟩
  case round =>
    obtain ⟨m, hm, rfl, hown, hB⟩ := hrel
    by_cases hp : m < x.size
    · obtain ⟨g, rfl⟩ : ∃ g, gk = g + 1 := ⟨gk - 1, by omega⟩
      have hpi : (m : Int) + 1 ≤ (x.size : Int) := by omega
      have CF : Hid (∀ w, Calls Tryz.prog 58 #[.string x, .int .i64 ((m : Int) + 1)] w (RetS (facK x (m + 1) (x.size - m)) 0 w)) := Lib.hid fun w => by
        have := impl_FactorsOf x (((m + 1 : Nat)) : Int) w (by unfold maxLen; omega) (by go_wf)
        rwa [factorsR_ok H.out (by omega), show x.size + 1 - (m + 1) = x.size - m by omega] at this
      have hsz : ∀ z ∈ facK x (m + 1) (x.size - m), z.size ≤ 60 := fun z hz => by rw [facK_size (by omega) hz]; omega
      have hll : 0 < (facK x (m + 1) (x.size - m)).length := List.length_pos_iff.2 fun e => by
        have := (mem_facK x (m + 1) (x.extract 0 (0 + (m + 1))) (x.size - m)).2 ⟨0, by omega, rfl⟩
        rw [e] at this; cases this
      have hl2 := facK_len x (m + 1) (x.size - m)
      have HD : Hid (dfT T x (m + 1) = dfT T x m ++ (facK x (m + 1) (x.size - m)).filter T) := Lib.hid rfl
      have hD0 := dfT_len60 T h1 (N := m) (by omega)
      generalize facK x (m + 1) (x.size - m) = L at *
      generalize dfT T x m = D at *
      have HSZ := Lib.hid hsz
      clear hsz
      go_wp2_with fail
      refine (CF.out _).mono ?_
      rintro e w2 ⟨v2, rfl, o2, b2⟩
      have hwr := hB.size
      have hlt5 := fun k hk => (OwnS.lt hown k hk).2
      obtain ⟨g2, cp, rfl, hBg, hg2, hc, hmx, _, _⟩ := o2.row hll
      have hne : u5.ownBlock ≠ some g2 := fun e => by have := hlt5 _ e; omega
      have hown2 := hown.below b2
      have hB2 := hB.then b2
      clear hown hB b2 hlt5
      go_wp2_with fail
      go_loopg [5, 25] L.length (fun g3 v i wr => ∃ k : Nat, k + g3 = L.length ∧ i = .int .i64 (k : Int) ∧ OwnS wr w.heap.size v (D ++ (L.take k).filter T) ∧ v.ownBlock ≠ some g2 ∧ g2 < wr.heap.size ∧ OwnS wr w.heap.size (.slice (some ⟨g2, 0, none⟩) L.length cp) L ∧ Below w.heap.size w wr)
      case atStart => exact ⟨0, by omega, rfl, by rw [List.take_zero]; simpa using hown2, hne, hg2, o2.base hwr, hB2⟩
      case round =>
        clear hown2 hne hg2 o2 hB2
        obtain ⟨k, hk, rfl, hown, hne, hg2, oL, hB⟩ := hrel
        by_cases hpk : k < L.length
        · obtain ⟨g3, rfl⟩ : ∃ g, gk = g + 1 := ⟨gk - 1, by omega⟩
          have hkc : k < cp := by omega
          have hfl := List.length_filter_le T (L.take k)
          have hlt : (L.take k).length = k := by rw [List.length_take]; omega
          have cell : wr.cell? ⟨g2, k, none⟩ = some (.string (L[k]'hpk)) := by
            rw [oL.cellAt k (by omega), List.getElem?_map, List.getElem?_eq_getElem hpk]; rfl
          have hzs := HSZ.out (L[k]'hpk) (List.getElem_mem _)
          have hst : L.take (k + 1) = L.take k ++ [L[k]'hpk] := List.take_succ_eq_append_getElem hpk
          have CT := fun W hW => HT.out (L[k]'hpk) W hzs hW
          by_cases ht : T (L[k]'hpk) = true
          · have HN : Hid (D ++ (L.take (k + 1)).filter T = D ++ (L.take k).filter T ++ [L[k]'hpk]) := Lib.hid (by rw [hst, List.filter_append, List.append_assoc]; simp [ht])
            rw [ht] at CT
            have CT2 := Lib.hid CT
            clear CT ht hst
            generalize L[k]'hpk = z at *
            have hll2 : (D ++ (L.take k).filter T).length ≤ 3660 := by rw [List.length_append]; omega
            generalize D ++ (L.take k).filter T = M at *
            go_wp2_with (first | (go_at_call 45; refine (CT2.out _ hB).mono ?_; rintro e w3 ⟨rfl, b3⟩; have hown := hown.below b3; have hB3 := hB.then b3; have hbz3 := hB3.size; have oL3 := oL.below b3; have hg3 : g2 < w3.heap.size := Nat.lt_of_lt_of_le hg2 b3.size; clear oL hB b3 hg2) | (at_builtin; refine wpList_append_own_at _ rfl _ _ 25 rfl w.heap.size 9 i0 (.string ⟨#[]⟩) 1 16 Tryz.underlying25 hi hz0 hz1 hz2 rfl (by decide) _ _ _ rfl (hown.alloc _) ⟨_, 0, none⟩ 1 1 [.string z] rfl rfl (cell_new _ _ _) (by intro u hu; simp at hu; subst hu; rfl) (by unfold maxLen; omega) (by omega) (by simp; omega) ?_; intro v' w4 hown' hgrow _ hat))
            have hg4 : g2 < w4.heap.size := by have := hgrow.size; simp at this; omega
            have oL4 : OwnS w4 w.heap.size (.slice (some ⟨g2, 0, none⟩) L.length cp) L := World.ownsRow.kept (oL3.alloc _) hgrow (.inr fun e => hne e.symm)
            have hne' : v'.ownBlock ≠ some g2 := by
              rcases hat with e | e
              · rw [e]; exact hne
              · rw [e]; intro e2; have := Option.some.inj e2; simp at this; omega
            have hB4 : Below w.heap.size w w4 := (hB3.alloc hbz3 _).grown hgrow (by simp; omega) (fun q hq => (hown.lt q hq).1)
            clear hat oL3
            go_roundg g3
            case measure => omega
            case rel => exact ⟨k + 1, by omega, by go_num, by unfold OwnS; rw [HN.out, List.length_append, List.map_append]; exact hown', hne', hg4, oL4, hB4⟩
          · have ht2 : T (L[k]'hpk) = false := by simpa using ht
            have HN : Hid (D ++ (L.take (k + 1)).filter T = D ++ (L.take k).filter T) := Lib.hid (by rw [hst, List.filter_append]; simp [ht2])
            rw [ht2] at CT
            have CT2 := Lib.hid CT
            clear CT ht ht2 hst
            generalize L[k]'hpk = z at *
            go_wp2_with (go_at_call 45; refine (CT2.out _ hB).mono ?_; rintro e w3 ⟨rfl, b3⟩)
            go_roundg g3
            case measure => omega
            case rel => exact ⟨k + 1, by omega, by go_num, by rw [HN.out]; exact hown.below b3, hne, Nat.lt_of_lt_of_le hg2 b3.size, oL.below b3, hB.then b3⟩
        · have hkl : k = L.length := by omega
          have HO : Hid (OwnS wr w.heap.size u5 (dfT T x (m + 1))) := Lib.hid (by rw [HD.out]; rwa [hkl, List.take_length] at hown)
          clear hown oL
          have hpk2 : ¬ (k : Int) < (L.length : Int) := by omega
          go_wp2
          go_roundg g
          case measure => omega
          case rel => exact ⟨m + 1, by omega, by go_num, HO.out, hB⟩
    · have hpi : ¬ (m : Int) + 1 ≤ (x.size : Int) := by omega
      have hke : m = x.size := by omega
      have HO := Lib.hid hown
      clear hown
      go_wp2
      go_ret
      rw [← hke]
      exact ⟨_, rfl, HO.out, hB⟩

end Go.Proofs.YtddfdciohnabbacGreat

/-! ### AllPal -/
namespace Go.Proofs.YtddfdciohnabbacGreat
set_option linter.unusedVariables false
set_option linter.unusedSimpArgs false
open Go.RowKit

set_option maxRecDepth 100000 in
set_option maxHeartbeats 1000000 in
theorem impl_PalindromesOf (x : ByteArray) (w : World) (sx : x.size ≤ maxLen) :
    Calls Tryz.prog 46 #[.string x] w (RetS (palsR x).1 (palsR x).2 w) := by
  by_cases h : IsW x
  · rw [palsR_ok h]
    have H := Lib.hid h
    clear h
    go_enter Tryz.func46, Tryz.ntmps46
    go_wp2_with fail
    refine (isWord_yes x _ H.out).mono ?_
    rintro e w1 ⟨rfl, b1⟩
    go_wp2_with fail
    refine (df_DfPal palT x _ H.out fun z W hz _ => isPal_any z W (by omega)).mono ?_
    rintro e w2 ⟨v, rfl, o2, b2⟩
    go_wp2_with fail
    go_ret2
    exact ⟨v, rfl, o2.base b1.size, b1.then b2⟩
  · rw [palsR_bad h]
    have H := Lib.hid h
    clear h
    go_enter Tryz.func46, Tryz.ntmps46
    go_wp2_with fail
    refine (isWord_not x _ sx H.out).mono ?_
    rintro e w1 ⟨rfl, b1⟩
    go_wp2_with fail
    go_ret2
    exact ⟨_, rfl, OwnS.nil _ _, b1⟩

/-- The slice, told by its length. -/
theorem OwnS.form0 {w : World} {B : Nat} {v : Value} {L : List ByteArray} (h : OwnS w B v L) : ∃ a c, v = .slice a L.length c := by
  rcases own_forms h with ⟨rfl, h0, _⟩ | ⟨g, cap, rfl, _⟩
  · exact ⟨_, _, by rw [h0]⟩
  · exact ⟨_, _, rfl⟩

set_option maxRecDepth 100000 in
set_option maxHeartbeats 1000000 in
theorem impl_DefectOf (x : ByteArray) (w : World) (sx : x.size ≤ maxLen) :
    Calls Tryz.prog 23 #[.string x] w fun e w' => e = .returned (.tuple #[.int .i64 (defR x).1, .int .i64 (defR x).2]) ∧ Below w.heap.size w w' := by
  by_cases h : IsW x
  · rw [defR_ok h]
    have h1 := h.size
    have hl := dfT_len60 palT h1 (N := x.size) (Nat.le_refl _)
    have CA : Hid (∀ w, Calls Tryz.prog 46 #[.string x] w (RetS (dfT palT x x.size) 0 w)) := Lib.hid fun w => by
      have := impl_PalindromesOf x w sx
      rwa [palsR_ok h] at this
    clear h
    generalize dfT palT x x.size = L at *
    go_enter Tryz.func23, Tryz.ntmps23
    go_wp2_with fail
    refine (CA.out _).mono ?_
    rintro e w2 ⟨v, rfl, o2, b2⟩
    obtain ⟨a, c, rfl⟩ := o2.form0
    go_wp2_with fail
    go_ret2
    exact ⟨rfl, b2⟩
  · rw [defR_bad h]
    have CA : Hid (∀ w, Calls Tryz.prog 46 #[.string x] w (RetS [] 1 w)) := Lib.hid fun w => by
      have := impl_PalindromesOf x w sx
      rwa [palsR_bad h] at this
    clear h
    go_enter Tryz.func23, Tryz.ntmps23
    go_wp2_with fail
    refine (CA.out _).mono ?_
    rintro e w2 ⟨v, rfl, o2, b2⟩
    go_wp2_with fail
    go_ret2
    exact ⟨rfl, b2⟩

end Go.Proofs.YtddfdciohnabbacGreat

/-! ### Joined -/
namespace Go.Proofs.YtddfdciohnabbacGreat
set_option linter.unusedVariables false
set_option linter.unusedSimpArgs false
open Go.RowKit

theorem OwnS.lookQ {w : World} {B : Nat} {v : Value} {L : List ByteArray} (h : OwnS w B v L) : ∃ ad cap, v = .slice ad L.length cap ∧ ∀ j (hj : j < L.length), ∃ g, ad = some ⟨g, 0, none⟩ ∧ g < w.heap.size ∧ j < cap ∧ w.cell? ⟨g, j, none⟩ = some (.string (L[j]'hj)) := by
  by_cases hn : 0 < L.length
  · obtain ⟨g, cap, rfl, _, hg, hc, _, cell, _⟩ := h.row hn
    exact ⟨_, _, rfl, fun j hj => ⟨g, rfl, hg, by omega, cell j hj⟩⟩
  · have e : L = [] := List.length_eq_zero_iff.1 (by omega)
    subst e
    obtain ⟨a, c, rfl⟩ := h.empty
    exact ⟨a, c, rfl, fun j hj => absurd hj (by simp)⟩
def jtL (L : List ByteArray) (k : Nat) : List UInt8 := ((L.take k).map bl).flatten
theorem jtL_len (L : List ByteArray) (k : Nat) : (jtL L k).length ≤ (L.map bl).flatten.length := by
  unfold jtL
  conv => rhs; rw [← List.take_append_drop k L, List.map_append, List.flatten_append, List.length_append]
  omega
theorem jtL_snoc (L : List ByteArray) (k : Nat) (h : k < L.length) : ofL (jtL L k) ++ L[k]'h = ofL (jtL L (k + 1)) := by
  apply bl_inj
  rw [bl_append, bl_ofL, bl_ofL]
  unfold jtL
  rw [List.take_succ_eq_append_getElem h, List.map_append, List.flatten_append]
  simp
theorem ofL_size (l : List UInt8) : (ofL l).size = l.length := rfl

set_option maxRecDepth 100000 in
set_option maxHeartbeats 1000000 in
theorem joined_any (B1 : Nat) (v1 : Value) (L : List ByteArray) (w : World) (h1 : OwnS w B1 v1 L) (hs : (L.map bl).flatten.length ≤ 1000) (hll : L.length ≤ 100000) :
    Calls Tryz.prog 24 #[v1] w fun e w' => e = .returned (.string (ofL (L.map bl).flatten)) ∧ Below w.heap.size w w' := by
  obtain ⟨ad1, cap1, rfl, look1⟩ := h1.lookQ
  have K1 := Lib.hid look1
  have HS := Lib.hid hs
  clear look1 h1 hs
  go_enter Tryz.func24, Tryz.ntmps24
  go_wp2
  go_loopg [3, 4] L.length (fun g s3 s4 wr => ∃ k : Nat, k + g = L.length ∧ s3 = .string (ofL (jtL L k)) ∧ s4 = .int .i64 (k : Int) ∧ Below w.heap.size w wr)
  case atStart => exact ⟨0, by omega, rfl, rfl, Below.refl _ _⟩
  case round =>
    obtain ⟨k, hk, rfl, rfl, hB⟩ := hrel
    by_cases hp : k < L.length
    · obtain ⟨g, rfl⟩ : ∃ q, gk = q + 1 := ⟨gk - 1, by omega⟩
      have hpi : (k : Int) < (L.length : Int) := by omega
      obtain ⟨g1, rfl, hg1, hjc, jc⟩ := K1.out k hp
      have jc1 : wr.cell? ⟨g1, k, none⟩ = some (.string (L[k]'hp)) := by rw [(bcell hB).1 g1 k hg1, jc]
      have hsn := jtL_snoc L k hp
      have h1 := jtL_len L k
      have h2 := jtL_len L (k + 1)
      have h3 := HS.out
      have z1 := ofL_size (jtL L k)
      have z2 := ofL_size (jtL L (k + 1))
      have z3 := congrArg ByteArray.size hsn
      rw [ByteArray.size_append] at z3
      have hsum : ∀ W, (Op.stringOp .add (ofL (jtL L k)) (L[k]'hp)).run Tryz.prog W = .ok (.string (ofL (jtL L (k + 1)))) W := fun W => by
        rw [← hsn]; exact run_string_add_sum W _ _ (by omega)
      have HK := Lib.hid hk
      clear hsn h1 h2 h3 z1 z2 z3 hk jc
      obtain ⟨s2, hs2⟩ : ∃ q, ofL (jtL L (k + 1)) = q := ⟨_, rfl⟩
      rw [hs2] at hsum
      have HS2 := Lib.hid hs2
      clear hs2
      generalize L[k]'hp = z at *
      generalize ofL (jtL L k) = s at *
      go_wp2
      go_roundg g
      case measure => omega
      case rel => exact ⟨k + 1, by have := HK.out; omega, by rw [HS2.out], by go_num, hB⟩
    · have hpi : ¬ (k : Int) < (L.length : Int) := by omega
      have HV : Hid (ofL (jtL L k) = ofL (L.map bl).flatten) := Lib.hid (by unfold jtL; rw [List.take_of_length_le (by omega)])
      generalize ofL (jtL L k) = s at *
      go_wp2
      go_ret
      exact ⟨by rw [HV.out]; rfl, hB⟩

end Go.Proofs.YtddfdciohnabbacGreat

/-! ### Like9 -/
namespace Go.Proofs.YtddfdciohnabbacGreat
set_option linter.unusedVariables false
set_option linter.unusedSimpArgs false
open Go.RowKit

set_option maxRecDepth 100000 in
theorem words9_yes (B1 B2 : Nat) (v1 v2 : Value) (L : List ByteArray) (w : World) (h1 : OwnS w B1 v1 L) (h2 : OwnS w B2 v2 L) :
    Calls Tryz.prog 8 #[v1, v2] w fun e w' => e = .returned (.bool true) ∧ Below w.heap.size w w' := by
  by_cases h0 : L = []
  · subst h0
    obtain ⟨a1, c1, rfl⟩ := h1.empty
    obtain ⟨a2, c2, rfl⟩ := h2.empty
    clear h1 h2
    go_enter Tryz.func8, Tryz.ntmps8
    go_wp2
    refine wp_loop_rounds 1 ?_
    rw [rounds_succ]
    go_wp2
    go_ret
    exact ⟨rfl, Below.refl _ _⟩
  · have hn : 0 < L.length := List.length_pos_iff.2 h0
    obtain ⟨g1, c1, rfl, _, hg1, hc1, hm, cell1, _⟩ := h1.row hn
    obtain ⟨g2, c2, rfl, _, hg2, hc2, _, cell2, _⟩ := h2.row hn
    unfold maxLen at hm
    have C1 := Lib.hid cell1
    have C2 := Lib.hid cell2
    clear h1 h2 cell1 cell2 h0
    go_enter Tryz.func8, Tryz.ntmps8
    go_wp2
    go_loopw [5] (fun i wr => ∃ k : Nat, k ≤ L.length ∧ i = .int .i64 k ∧ Below w.heap.size w wr) (fun i _ => L.length - (intOf i).toNat)
    case atStart => exact ⟨0, Nat.zero_le _, rfl, Below.refl _ _⟩
    case round =>
      obtain ⟨k, hk, rfl, hB⟩ := hrel
      by_cases hp : k < L.length
      · have k1 : wr.cell? ⟨g1, k, none⟩ = some (.string (L[k]'hp)) := by rw [(bcell hB).1 g1 k hg1]; exact C1.out k hp
        have k2 : wr.cell? ⟨g2, k, none⟩ = some (.string (L[k]'hp)) := by rw [(bcell hB).1 g2 k hg2]; exact C2.out k hp
        have hpc1 : k < c1 := by omega
        have hpc2 : k < c2 := by omega
        generalize L[k]'hp = z at k1 k2
        go_wp2
        go_quiet (fail)
        go_wp2
        go_roundw
        case rel => exact ⟨k + 1, by omega, by go_num, hB.drewN _⟩
        case measure => simp [intOf]; omega
      · go_wp2
        go_ret
        exact ⟨rfl, hB⟩

end Go.Proofs.YtddfdciohnabbacGreat
