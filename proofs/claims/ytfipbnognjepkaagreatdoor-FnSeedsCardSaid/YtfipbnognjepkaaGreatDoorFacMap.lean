/- The set of the factors of a length, as a map's datum. -/
import Derived.Sort.KeysCollected
import Derived.Maps.OwnIn
import Derived.Test.YtfipbnognjepkaaGreatDoorPutPlain
namespace Go.Proofs.YtfipbnognjepkaaGreatDoor
set_option linter.unusedVariables false
set_option linter.unusedSimpArgs false
open Go.RowKit Go.Maps Go.Sort

/-- The keys that the places told give. -/
def keysF (x : ByteArray) (m : Nat) (pre : List Nat) : List Lit := pre.map fun i => Lit.string (x.extract i (i + m)).data.toList
def setF (x : ByteArray) (m : Nat) (pre : List Nat) : DataW Unit := setOf (.lit (.bool true)) (keysF x m pre)
theorem setF_snoc (x : ByteArray) (m : Nat) (pre : List Nat) (i : Nat) : setF x m (pre ++ [i]) = (setF x m pre).put (.string (x.extract i (i + m)).data.toList) (.lit (.bool true)) := by
  unfold setF keysF
  rw [List.map_append]
  exact setOf_snoc _ _ _
theorem setF_nil (x : ByteArray) (m : Nat) : setF x m [] = .map [] := rfl
theorem keysF_lit (x : ByteArray) (m : Nat) (pre : List Nat) : ∀ z ∈ keysF x m pre, WideAt.IsKeyLit z := by
  intro z hz
  obtain ⟨i, _, rfl⟩ := List.mem_map.1 hz
  trivial
theorem bytes_inj {a b : ByteArray} (h : a.data.toList = b.data.toList) : a = b := by
  have h3 : a.data = b.data := by rw [← Array.toList_inj]; exact h
  cases a; cases b; simp_all
theorem has_setF (x : ByteArray) (m N : Nat) (z : List UInt8) : has (setF x m (List.range N)) (.string z) = true ↔ ∃ i, i < N ∧ z = (x.extract i (i + m)).data.toList := by
  unfold setF
  rw [has_setOf _ _ _ (keysF_lit _ _ _), List.any_eq_true]
  constructor
  · rintro ⟨l, hl, he⟩
    obtain ⟨i, hi, rfl⟩ := List.mem_map.1 hl
    refine ⟨i, List.mem_range.1 hi, ?_⟩
    have := (WideAt.sameKey_iff (show WideAt.IsKeyLit (.string z) from trivial)).1 he
    cases this
    rfl
  · rintro ⟨i, hi, rfl⟩
    exact ⟨_, List.mem_map.2 ⟨i, List.mem_range.2 hi, rfl⟩, WideAt.sameKey_self trivial⟩

theorem facK_nodup (x : ByteArray) (m N : Nat) : ((facK x m N).map fun z => z.data.toList).Nodup := by
  refine List.pairwise_map.2 ((facK_asc x m N).imp fun {a b} h e => ?_)
  unfold wlt at h
  rw [e] at h
  exact List.lt_irrefl _ h

/-- The map's keys are the different factors. -/
theorem setF_perm {P : Program} {k : TypeId} {R : Value → Option (DataW Unit × List MemPlace)} {w : World} {b n : Nat} (x : ByteArray) (m N : Nat) (hown : w.ownsMap P k R b n (setF x m (List.range N))) (K : Keyed P k) (hk : P.underlying k = some .string) :
    ((facK x m N).map fun z => z.data.toList).Perm (strKeys (setF x m (List.range N))) := by
  obtain ⟨es, hD, hpw, _⟩ := hown.entries K
  obtain ⟨es', hD', hko⟩ := hown.keysOf
  obtain rfl : es = es' := by rw [hD] at hD'; simpa using hD'
  have hh := fun z => has_setF x m N z
  rw [hD] at hh ⊢
  refine perm_strKeys hpw (fun p hp => by obtain ⟨v, hv⟩ := hko p hp; obtain ⟨x, _, hx, _⟩ := Maps.keyOf_str hk hv; exact ⟨x, hx⟩) (facK_nodup x m N) (fun z => ?_)
  rw [hh z]
  constructor
  · intro h
    obtain ⟨y, hy, rfl⟩ := List.mem_map.1 h
    obtain ⟨i, hi, rfl⟩ := (mem_facK x m y N).1 hy
    exact ⟨i, hi, rfl⟩
  · rintro ⟨i, hi, rfl⟩
    exact List.mem_map.2 ⟨_, (mem_facK x m _ N).2 ⟨i, hi, rfl⟩, rfl⟩

theorem setF_size {P : Program} {k : TypeId} {R : Value → Option (DataW Unit × List MemPlace)} {w : World} {b n : Nat} (x : ByteArray) (m N : Nat) (hown : w.ownsMap P k R b n (setF x m (List.range N))) (K : Keyed P k) (hk : P.underlying k = some .string) : Maps.size (setF x m (List.range N)) ≤ N := by
  have h1 := (setF_perm x m N hown K hk).length_eq
  have h2 := facK_len x m N
  obtain ⟨es, hD, _⟩ := hown.entries K
  rw [hD] at h1 ⊢
  rw [List.length_map] at h1
  have h3 : (strKeys (DataW.map es)).length = es.length := by simp [strKeys]
  have h4 : Maps.size (DataW.map es) = es.length := rfl
  omega

/-- Sorted, they are the ascending list. -/
theorem setF_sorted (x : ByteArray) (m N : Nat) (ss : List (List UInt8)) (h : ss.Perm ((facK x m N).map fun z => z.data.toList)) : (ss.mergeSort leB).map encStr = (facK x m N).map Value.string := by
  rw [mergeSort_of_perm h, List.mergeSort_of_pairwise]
  · rw [List.map_map]
    refine List.map_congr_left fun z _ => ?_
    simp [encStr]
  · refine List.pairwise_map.2 ((facK_asc x m N).imp fun {a b} h => ?_)
    exact decide_eq_true (List.le_of_lt h)

end Go.Proofs.YtfipbnognjepkaaGreatDoor
