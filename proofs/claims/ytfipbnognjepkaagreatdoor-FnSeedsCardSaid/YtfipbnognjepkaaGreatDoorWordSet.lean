/- The set of some words, as a map's datum; the same words, ascending. -/
import Derived.Test.YtfipbnognjepkaaGreatDoorFacMap
import Derived.Test.YtfipbnognjepkaaGreatDoorRepPlain
namespace Go.Proofs.YtfipbnognjepkaaGreatDoor
set_option linter.unusedVariables false
set_option linter.unusedSimpArgs false
open Go.RowKit Go.Maps Go.Sort

/-- The words of a list, each once, ascending. -/
def insA (ws : List ByteArray) : List ByteArray := ws.foldl insW []
theorem insA_snoc (ws : List ByteArray) (s : ByteArray) : insA (ws ++ [s]) = insW (insA ws) s := by unfold insA; rw [List.foldl_append]; rfl
theorem asc_fold : ∀ (ws acc : List ByteArray), Asc acc → Asc (ws.foldl insW acc)
  | [], _, h => h
  | s :: ws, acc, h => asc_fold ws _ (asc_insW acc s h)
theorem asc_insA (ws : List ByteArray) : Asc (insA ws) := asc_fold ws [] List.Pairwise.nil
theorem mem_fold (z : ByteArray) : ∀ (ws acc : List ByteArray), z ∈ ws.foldl insW acc ↔ z ∈ acc ∨ z ∈ ws
  | [], acc => by simp
  | s :: ws, acc => by
    rw [List.foldl_cons, mem_fold z ws, mem_insW, List.mem_cons]
    constructor
    · rintro ((h | h) | h)
      · exact .inr (.inl h)
      · exact .inl h
      · exact .inr (.inr h)
    · rintro (h | h | h)
      · exact .inl (.inr h)
      · exact .inl (.inl h)
      · exact .inr h
theorem mem_insA (ws : List ByteArray) (z : ByteArray) : z ∈ insA ws ↔ z ∈ ws := by unfold insA; rw [mem_fold]; simp
theorem len_fold : ∀ (ws acc : List ByteArray), (ws.foldl insW acc).length ≤ acc.length + ws.length
  | [], acc => by simp
  | s :: ws, acc => by
    rw [List.foldl_cons]
    have h1 := len_fold ws (insW acc s)
    have h2 := insW_len acc s
    rw [List.length_cons]
    omega
theorem insA_len (ws : List ByteArray) : (insA ws).length ≤ ws.length := by have := len_fold ws []; simpa [insA] using this

def setW (ws : List ByteArray) : DataW Unit := setOf (.lit (.bool true)) (ws.map fun s => Lit.string s.data.toList)
theorem setW_snoc (ws : List ByteArray) (s : ByteArray) : setW (ws ++ [s]) = (setW ws).put (.string s.data.toList) (.lit (.bool true)) := by
  unfold setW
  rw [List.map_append]
  exact setOf_snoc _ _ _
theorem setW_nil : setW [] = .map [] := rfl
theorem keysW_lit (ws : List ByteArray) : ∀ z ∈ ws.map (fun s => Lit.string s.data.toList), WideAt.IsKeyLit z := by
  intro z hz
  obtain ⟨s, _, rfl⟩ := List.mem_map.1 hz
  trivial
theorem has_setW (ws : List ByteArray) (z : List UInt8) : has (setW ws) (.string z) = true ↔ ∃ s ∈ ws, z = s.data.toList := by
  unfold setW
  rw [has_setOf _ _ _ (keysW_lit _), List.any_eq_true]
  constructor
  · rintro ⟨l, hl, he⟩
    obtain ⟨s, hs, rfl⟩ := List.mem_map.1 hl
    refine ⟨s, hs, ?_⟩
    have := (WideAt.sameKey_iff (show WideAt.IsKeyLit (.string z) from trivial)).1 he
    cases this
    rfl
  · rintro ⟨s, hs, rfl⟩
    exact ⟨_, List.mem_map.2 ⟨s, hs, rfl⟩, WideAt.sameKey_self trivial⟩
theorem insA_nodup (ws : List ByteArray) : ((insA ws).map fun z => z.data.toList).Nodup := by
  refine List.pairwise_map.2 ((asc_insA ws).imp fun {a b} h e => ?_)
  unfold wlt at h
  rw [e] at h
  exact List.lt_irrefl _ h
/-- The map's keys are the different words. -/
theorem setW_perm {P : Program} {k : TypeId} {R : Value → Option (DataW Unit × List MemPlace)} {w : World} {b n : Nat} (ws : List ByteArray) (hown : w.ownsMap P k R b n (setW ws)) (K : Keyed P k) (hk : P.underlying k = some .string) :
    ((insA ws).map fun z => z.data.toList).Perm (strKeys (setW ws)) := by
  obtain ⟨es, hD, hpw, _⟩ := hown.entries K
  obtain ⟨es', hD', hko⟩ := hown.keysOf
  obtain rfl : es = es' := by rw [hD] at hD'; simpa using hD'
  have hh := fun z => has_setW ws z
  rw [hD] at hh ⊢
  refine perm_strKeys hpw (fun p hp => by obtain ⟨v, hv⟩ := hko p hp; obtain ⟨x, _, hx, _⟩ := Maps.keyOf_str hk hv; exact ⟨x, hx⟩) (insA_nodup ws) (fun z => ?_)
  rw [hh z]
  constructor
  · intro h
    obtain ⟨y, hy, rfl⟩ := List.mem_map.1 h
    exact ⟨y, (mem_insA ws y).1 hy, rfl⟩
  · rintro ⟨s, hs, rfl⟩
    exact List.mem_map.2 ⟨_, (mem_insA ws _).2 hs, rfl⟩
theorem setW_size {P : Program} {k : TypeId} {R : Value → Option (DataW Unit × List MemPlace)} {w : World} {b n : Nat} (ws : List ByteArray) (hown : w.ownsMap P k R b n (setW ws)) (K : Keyed P k) (hk : P.underlying k = some .string) : Maps.size (setW ws) ≤ ws.length := by
  have h1 := (setW_perm ws hown K hk).length_eq
  have h2 := insA_len ws
  obtain ⟨es, hD, _⟩ := hown.entries K
  rw [hD] at h1 ⊢
  rw [List.length_map] at h1
  have h3 : (strKeys (DataW.map es)).length = es.length := by simp [strKeys]
  have h4 : Maps.size (DataW.map es) = es.length := rfl
  omega
/-- Sorted, they are the ascending list. -/
theorem setW_sorted (ws : List ByteArray) (ss : List (List UInt8)) (h : ss.Perm ((insA ws).map fun z => z.data.toList)) : (ss.mergeSort leB).map encStr = (insA ws).map Value.string := by
  rw [mergeSort_of_perm h, List.mergeSort_of_pairwise]
  · rw [List.map_map]
    refine List.map_congr_left fun z _ => ?_
    simp [encStr]
  · refine List.pairwise_map.2 ((asc_insA ws).imp fun {a b} h => ?_)
    exact decide_eq_true (List.le_of_lt h)

/-- The square told by a place and a root length. -/
def sqW (x : ByteArray) (p : Nat × Nat) : ByteArray := x.extract p.1 (p.1 + 2 * p.2)
def squaresR (x : ByteArray) : List ByteArray × Int := if ¬ IsW x then ([], 1) else (insA ((reps (bl x) (eP 2 0)).map (sqW x)), 0)
theorem squaresR_bad {x : ByteArray} (h : ¬ IsW x) : squaresR x = ([], 1) := if_pos h
theorem squaresR_ok {x : ByteArray} (h : IsW x) : squaresR x = (insA ((reps (bl x) (eP 2 0)).map (sqW x)), 0) := by unfold squaresR; rw [if_neg (not_not_intro h)]
theorem squaresR_len (x : ByteArray) : (squaresR x).1.length ≤ 4096 := by
  by_cases h : IsW x
  · rw [squaresR_ok h]
    have h1 := insA_len ((reps (bl x) (eP 2 0)).map (sqW x))
    have h2 := reps_short (l := bl x) (eP 2 0) h.size
    rw [List.length_map] at h1
    show (insA _).length ≤ 4096
    omega
  · rw [squaresR_bad h]; decide

end Go.Proofs.YtfipbnognjepkaaGreatDoor
