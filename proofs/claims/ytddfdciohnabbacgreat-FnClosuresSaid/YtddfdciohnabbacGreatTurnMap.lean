/- The set of the turned words, as a map's datum; how many there are. -/
import Derived.Sort.KeysCollected
import Derived.Maps.OwnIn
import Derived.Maps.OwnSet
import Derived.Test.YtddfdciohnabbacGreatLeast
namespace Go.Proofs.YtddfdciohnabbacGreat
set_option linter.unusedVariables false
set_option linter.unusedSimpArgs false
open Go.RowKit Go.Maps Go.Sort

def keysT (x : ByteArray) (pre : List Nat) : List Lit := pre.map fun i => Lit.string (turned x i).data.toList
def setT (x : ByteArray) (pre : List Nat) : DataW Unit := setOf (.lit (.bool true)) (keysT x pre)
theorem setT_snoc (x : ByteArray) (pre : List Nat) (i : Nat) : setT x (pre ++ [i]) = (setT x pre).put (.string (turned x i).data.toList) (.lit (.bool true)) := by
  unfold setT keysT
  rw [List.map_append]
  exact setOf_snoc _ _ _
theorem keysT_lit (x : ByteArray) (pre : List Nat) : ∀ z ∈ keysT x pre, WideAt.IsKeyLit z := by
  intro z hz
  obtain ⟨i, _, rfl⟩ := List.mem_map.1 hz
  trivial
theorem has_setT (x : ByteArray) (N : Nat) (z : List UInt8) : has (setT x (List.range N)) (.string z) = true ↔ ∃ i, i < N ∧ z = bl (turned x i) := by
  unfold setT
  rw [has_setOf _ _ _ (keysT_lit _ _), List.any_eq_true]
  constructor
  · rintro ⟨l, hl, he⟩
    obtain ⟨i, hi, rfl⟩ := List.mem_map.1 hl
    refine ⟨i, List.mem_range.1 hi, ?_⟩
    have := (WideAt.sameKey_iff (show WideAt.IsKeyLit (.string z) from trivial)).1 he
    cases this
    rfl
  · rintro ⟨i, hi, rfl⟩
    exact ⟨_, List.mem_map.2 ⟨i, List.mem_range.2 hi, rfl⟩, WideAt.sameKey_self trivial⟩

/-- The different turned words, once each. -/
noncomputable def rotsU (x : ByteArray) : List (List UInt8) := if x.size = 0 then [[]] else (List.range (rl (bl x))).map (rotL (bl x))
noncomputable def countU (x : ByteArray) : Nat := if x.size = 0 then 1 else rl (bl x)
theorem rotsU_len (x : ByteArray) : (rotsU x).length = countU x := by unfold rotsU countU; split <;> simp
theorem rotsU_nodup (x : ByteArray) : (rotsU x).Nodup := by
  unfold rotsU
  split
  · simp
  · next h => exact rots_nodup (bl_ne (by omega))
theorem rotsU_mem (x : ByteArray) (z : List UInt8) : z ∈ rotsU x ↔ ∃ i, i < max 1 x.size ∧ z = bl (turned x i) := by
  unfold rotsU
  by_cases h : x.size = 0
  · rw [if_pos h, List.mem_singleton]
    constructor
    · rintro rfl
      exact ⟨0, by omega, by rw [turned_zero, size_zero h]⟩
    · rintro ⟨i, hi, rfl⟩
      rw [show i = 0 by omega, turned_zero, size_zero h]
  · rw [if_neg h]
    have hne := bl_ne (x := x) (by omega)
    constructor
    · intro hz
      obtain ⟨k, hk, rfl⟩ := rots_of hne hz
      rw [bl_len] at hk
      exact ⟨k, by omega, (bl_turned x k).symm⟩
    · rintro ⟨i, hi, rfl⟩
      rw [bl_turned]
      exact rots_mem hne i (by rw [bl_len]; omega)
theorem countU_le (x : ByteArray) (h : x.size ≤ 60) : countU x ≤ 60 := by
  unfold countU
  split
  · omega
  · next h0 => have := rl_le (bl_ne (x := x) (by omega)); rw [bl_len] at this; omega

theorem setT_size {P : Program} {k : TypeId} {R : Value → Option (DataW Unit × List MemPlace)} {w : World} {b n : Nat} (x : ByteArray) (hown : w.ownsMap P k R b n (setT x (List.range (max 1 x.size)))) (K : Keyed P k) (hk : P.underlying k = some .string) : Maps.size (setT x (List.range (max 1 x.size))) = countU x := by
  obtain ⟨es, hD, hpw, _⟩ := hown.entries K
  obtain ⟨es', hD', hko⟩ := hown.keysOf
  obtain rfl : es = es' := by rw [hD] at hD'; simpa using hD'
  have hh := fun z => has_setT x (max 1 x.size) z
  rw [hD] at hh ⊢
  have hp := perm_strKeys hpw (fun p hp => by obtain ⟨v, hv⟩ := hko p hp; obtain ⟨x, _, hx, _⟩ := Maps.keyOf_str hk hv; exact ⟨x, hx⟩) (rotsU_nodup x) (fun z => by rw [hh z]; exact rotsU_mem x z)
  have h1 := hp.length_eq
  rw [rotsU_len] at h1
  have h3 : (strKeys (DataW.map es)).length = es.length := by simp [strKeys]
  have h4 : Maps.size (DataW.map es) = es.length := rfl
  omega

end Go.Proofs.YtddfdciohnabbacGreat
