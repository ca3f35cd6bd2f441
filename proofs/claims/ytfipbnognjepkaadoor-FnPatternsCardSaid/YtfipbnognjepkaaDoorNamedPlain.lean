/- Plain facts: words with names. -/
import Derived.Test.YtfipbnognjepkaaDoorComPlain
namespace Go.Proofs.YtfipbnognjepkaaDoor
set_option linter.unusedVariables false
set_option linter.unusedSimpArgs false
open Go.RowKit

def bt (l : List UInt8) : ByteArray := ⟨l.toArray⟩
theorem bt_size (l : List UInt8) : (bt l).size = l.length := rfl
theorem bt_app (a b : List UInt8) : bt a ++ bt b = bt (a ++ b) := by
  apply ByteArray.ext
  rw [ByteArray.data_append]
  simp [bt]
theorem bt_take (l : List UInt8) (m : Nat) : (bt l).extract 0 m = bt (l.take m) := by
  apply ByteArray.ext
  rw [ByteArray.data_extract]
  simp [bt]
def imgs : Nat → List (List UInt8)
  | 0 => [[97, 98], [97]]
  | 1 => [[97, 98], [98, 97]]
  | 2 => [[97, 98], [97, 97]]
  | _ => [[97, 98, 99], [97, 99], [98]]
def img (I : List (List UInt8)) (c : UInt8) : List UInt8 := I.getD (c.toNat - 97) []
def implRun (I : List (List UInt8)) (m : Nat) : Nat → List UInt8 → Nat → List UInt8
  | 0, l, _ => l
  | f + 1, l, i => if l.length < m then implRun I m f (l ++ img I (l.getD i 0)) (i + 1) else l
def specRun (I : List (List UInt8)) (m : Nat) : Nat → List UInt8 → List UInt8
  | 0, l => l
  | f + 1, l => if l.length < m then specRun I m f (l.flatMap (img I)) else l
def namedI (d m : Nat) : List UInt8 := implRun (imgs d) m 60 ((imgs d).getD 0 []) 1
def namedS (d m : Nat) : List UInt8 := specRun (imgs d) m 60 [97]
theorem named_eq : ∀ d, d < 4 → ∀ m, m < 61 → (namedI d m).take m = (namedS d m).take m := by decide +kernel
theorem implRun_step {I : List (List UInt8)} {m f i : Nat} {l : List UInt8} (h : l.length < m) : implRun I m (f + 1) l i = implRun I m f (l ++ img I (l.getD i 0)) (i + 1) := by rw [implRun, if_pos h]
theorem implRun_end {I : List (List UInt8)} {m f i : Nat} {l : List UInt8} (h : ¬ l.length < m) : implRun I m f l i = l := by
  cases f with
  | zero => rfl
  | succ f => rw [implRun, if_neg h]
theorem specRun_step {I : List (List UInt8)} {m f : Nat} {l : List UInt8} (h : l.length < m) : specRun I m (f + 1) l = specRun I m f (l.flatMap (img I)) := by rw [specRun, if_pos h]
theorem specRun_end {I : List (List UInt8)} {m f : Nat} {l : List UInt8} (h : ¬ l.length < m) : specRun I m f l = l := by
  cases f with
  | zero => rfl
  | succ f => rw [specRun, if_neg h]
/-- All letters have images. -/
def lets (I : List (List UInt8)) (l : List UInt8) : Prop := ∀ c ∈ l, 97 ≤ c.toNat ∧ c.toNat - 97 < I.length
instance (I : List (List UInt8)) (l : List UInt8) : Decidable (lets I l) := by unfold lets; exact inferInstance
def goodI (I : List (List UInt8)) : Prop := (∀ s ∈ I, 1 ≤ s.length ∧ s.length ≤ 3 ∧ lets I s) ∧ 2 ≤ I.length ∧ I.length ≤ 3 ∧ 2 ≤ (I.getD 0 []).length ∧ (I.getD 0 []).getD 0 0 = 97
instance (I : List (List UInt8)) : Decidable (goodI I) := by unfold goodI; exact inferInstance
theorem imgs_good : ∀ d, d < 4 → goodI (imgs d) := by decide +kernel
theorem img_mem {I : List (List UInt8)} {c : UInt8} (h : c.toNat - 97 < I.length) : img I c ∈ I := by
  unfold img
  rw [List.getD_eq_getElem?_getD, List.getElem?_eq_getElem h]
  exact List.getElem_mem h
theorem lets_app {I : List (List UInt8)} {a b : List UInt8} (ha : lets I a) (hb : lets I b) : lets I (a ++ b) := by
  intro c hc
  rcases List.mem_append.1 hc with h | h
  · exact ha c h
  · exact hb c h
theorem lets_flat {I : List (List UInt8)} (g : goodI I) {l : List UInt8} (h : lets I l) : lets I (l.flatMap (img I)) := by
  intro c hc
  rw [List.mem_flatMap] at hc
  obtain ⟨x, hx, hc⟩ := hc
  exact (g.1 _ (img_mem (h x hx).2)).2.2 c hc
theorem flat_len {I : List (List UInt8)} (g : goodI I) : ∀ {l : List UInt8}, lets I l → l.length ≤ (l.flatMap (img I)).length ∧ (l.flatMap (img I)).length ≤ 3 * l.length
  | [], _ => by simp
  | c :: l, h => by
    have h1 := flat_len g (l := l) (fun x hx => h x (List.mem_cons_of_mem _ hx))
    have h2 := g.1 _ (img_mem (h c (List.mem_cons_self ..)).2)
    rw [List.flatMap_cons, List.length_append, List.length_cons]
    omega
theorem flat_grows {I : List (List UInt8)} (g : goodI I) {l : List UInt8} (h : lets I l) (h0 : l.getD 0 0 = 97) (hl : 0 < l.length) : l.length < (l.flatMap (img I)).length ∧ (l.flatMap (img I)).getD 0 0 = 97 := by
  cases l with
  | nil => simp at hl
  | cons c l =>
    have hc : c = 97 := by simpa using h0
    subst hc
    have h1 := flat_len g (l := l) (fun x hx => h x (List.mem_cons_of_mem _ hx))
    have h2 : img I 97 = I.getD 0 [] := rfl
    have h3 := g.2.2.2.1
    have h4 := g.2.2.2.2
    rw [List.flatMap_cons, List.length_append, List.length_cons, h2]
    refine ⟨by omega, ?_⟩
    rw [List.getD_eq_getElem?_getD, List.getElem?_append_left (by omega), ← List.getD_eq_getElem?_getD]
    exact h4
theorem flat_take {I : List (List UInt8)} (l : List UInt8) (i : Nat) (h : i < l.length) : (l.take (i + 1)).flatMap (img I) = (l.take i).flatMap (img I) ++ img I (l[i]'h) := by
  rw [List.take_succ_eq_append_getElem h, List.flatMap_append]
  simp
def idOf (s : ByteArray) : Option Nat := if s.toList = [102, 105, 98, 111, 110, 97, 99, 99, 105] then some 0 else if s.toList = [116, 104, 117, 101] then some 1 else if s.toList = [100, 111, 117, 98, 108, 105, 110, 103] then some 2 else if s.toList = [116, 114, 105, 112, 108, 101] then some 3 else none
def namedR (s : ByteArray) (m : Int) : ByteArray × Int := if m < 0 ∨ 60 < m then (tE, 2) else match idOf s with
  | none => (tE, 4)
  | some d => (bt ((namedS d m.toNat).take m.toNat), 0)
theorem namedR_out {s : ByteArray} {m : Int} (h : m < 0 ∨ 60 < m) : namedR s m = (⟨#[]⟩, 2) := if_pos h
theorem namedR_none {s : ByteArray} {m : Int} (h : ¬ (m < 0 ∨ 60 < m)) (h2 : idOf s = none) : namedR s m = (⟨#[]⟩, 4) := by unfold namedR; rw [if_neg h, h2]; rfl
theorem namedR_some {s : ByteArray} {m : Nat} {d : Nat} (h : m ≤ 60) (h2 : idOf s = some d) : namedR s (m : Int) = (bt ((namedS d m).take m), 0) := by unfold namedR; rw [if_neg (by omega), h2]; rfl
/-- The five ways in which a name is looked up, as the comparisons come out. -/
def way (s : ByteArray) (d : Nat) : Prop := (s.toList == [102, 105, 98, 111, 110, 97, 99, 99, 105]) = decide (d = 0) ∧ (1 ≤ d → (s.toList == [116, 104, 117, 101]) = decide (d = 1)) ∧ (2 ≤ d → (s.toList == [100, 111, 117, 98, 108, 105, 110, 103]) = decide (d = 2)) ∧ (3 ≤ d → (s.toList == [116, 114, 105, 112, 108, 101]) = decide (d = 3))
theorem way_of (s : ByteArray) : (idOf s = none ∧ way s 4) ∨ ∃ d, d < 4 ∧ idOf s = some d ∧ way s d := by
  unfold idOf way
  by_cases h0 : s.toList = [102, 105, 98, 111, 110, 97, 99, 99, 105]
  · exact .inr ⟨0, by omega, by rw [if_pos h0], by simp [h0], fun h => by omega, fun h => by omega, fun h => by omega⟩
  · by_cases h1 : s.toList = [116, 104, 117, 101]
    · exact .inr ⟨1, by omega, by rw [if_neg h0, if_pos h1], by simp [h0], fun _ => by simp [h1], fun h => by omega, fun h => by omega⟩
    · by_cases h2 : s.toList = [100, 111, 117, 98, 108, 105, 110, 103]
      · exact .inr ⟨2, by omega, by rw [if_neg h0, if_neg h1, if_pos h2], by simp [h0], fun _ => by simp [h1], fun _ => by simp [h2], fun h => by omega⟩
      · by_cases h3 : s.toList = [116, 114, 105, 112, 108, 101]
        · exact .inr ⟨3, by omega, by rw [if_neg h0, if_neg h1, if_neg h2, if_pos h3], by simp [h0], fun _ => by simp [h1], fun _ => by simp [h2], fun _ => by simp [h3]⟩
        · exact .inl ⟨by rw [if_neg h0, if_neg h1, if_neg h2, if_neg h3], by simp [h0], fun _ => by simp [h1], fun _ => by simp [h2], fun _ => by simp [h3]⟩

end Go.Proofs.YtfipbnognjepkaaDoor
