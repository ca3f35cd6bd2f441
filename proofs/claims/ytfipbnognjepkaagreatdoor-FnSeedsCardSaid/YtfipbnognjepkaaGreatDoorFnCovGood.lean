/- All that is asked of covers. -/
import Derived.Test.YtfipbnognjepkaaGreatDoorFnCovPlain
namespace Go.Proofs.YtfipbnognjepkaaGreatDoor
set_option linter.unusedVariables false
set_option linter.unusedSimpArgs false

theorem isW_cut {x : ByteArray} (h : IsW x) (a b : Nat) : IsW (x.extract a b) := by
  refine ⟨by rw [ByteArray.size_extract]; have := h.size; omega, fun i hi => ?_⟩
  have key : ∀ c ∈ bl (x.extract a b), 97 ≤ c.toNat ∧ c.toNat ≤ 101 := by
    intro c hc
    rw [bl_extract] at hc
    obtain ⟨j, hj, rfl⟩ := List.getElem_of_mem (List.mem_of_mem_drop (List.mem_of_mem_take hc))
    exact h.2 j hj
  exact key _ (List.getElem_mem (by exact hi))
theorem fold_let {u : ByteArray} : ∀ (L : List Int) (a : ByteArray), (∀ b ∈ bl a, b ∈ bl u) → ∀ b ∈ bl (L.foldl (fun a z => a ++ u.extract z.toNat u.size) a), b ∈ bl u
  | [], a, h => h
  | z :: L, a, h => by
    rw [List.foldl_cons]
    refine fold_let L _ ?_
    intro b hb
    rw [bl_append, List.mem_append, bl_extract] at hb
    rcases hb with hb | hb
    · exact h b hb
    · exact List.mem_of_mem_drop (List.mem_of_mem_take hb)
theorem isW_grown {u : ByteArray} {L : List Int} (h : IsW u) (hs : (growT u L).size ≤ 60) : IsW (growT u L) := by
  refine ⟨hs, fun i hi => ?_⟩
  have key : ∀ c ∈ bl (growT u L), 97 ≤ c.toNat ∧ c.toNat ≤ 101 := by
    intro c hc
    obtain ⟨j, hj, rfl⟩ := List.getElem_of_mem (fold_let L u (fun b hb => hb) c hc)
    exact h.2 j hj
  exact key _ (List.getElem_mem (by exact hi))
theorem gG (u : ByteArray) (L : List Int) : (growCR u L).2 ≠ 0 ∨ ((growCR u L).2 = 0 ∧ isCoverR (growCR u L).1 u = (true, 0) ∧ (growCR u L).1.size ≤ 60) := by
  by_cases h : IsW u
  · by_cases k : u.size = 0
    · rw [growCR_out h (.inl k)]; exact .inl (by decide)
    · by_cases r : ∀ z ∈ L, 0 ≤ z ∧ z < u.size
      · by_cases b : ∀ z ∈ L, bdT u z.toNat = true
        · by_cases l : 60 < growN u.size L
          · rw [growCR_long h k r b l]; exact .inl (by decide)
          · right
            rw [growCR_ok h k r b l]
            have hs := growT_size L r
            have hs60 : (growT u L).size ≤ 60 := by omega
            exact ⟨rfl, by rw [isCoverR_ok ⟨isW_grown h hs60, h⟩ k, grown_cover (by omega) r b], hs60⟩
        · rw [growCR_none h k r b]; exact .inl (by decide)
      · rw [growCR_out h (.inr r)]; exact .inl (by decide)
  · rw [growCR_bad h]; exact .inl (by decide)
theorem gC (x u : ByteArray) : (isCoverR x u).2 ≠ 0 ∨ ((isCoverR x u).2 = 0 ∧ ((uncoveredR x u).1 = [] ∧ (isCoverR x u).1 = true ∨ (uncoveredR x u).1 ≠ [] ∧ (isCoverR x u).1 = false)) := by
  by_cases h : IsW x ∧ IsW u
  · by_cases k : u.size = 0
    · rw [isCoverR_empty h k]; exact .inl (by decide)
    · rw [isCoverR_ok h k, uncoveredR_ok h k]
      refine .inr ⟨rfl, ?_⟩
      by_cases e : uncL x u x.size = []
      · exact .inl ⟨e, unc_nil.1 e⟩
      · refine .inr ⟨e, ?_⟩
        rw [Bool.eq_false_iff]
        exact fun q => e (unc_nil.2 q)
  · rw [isCoverR_bad h]; exact .inl (by decide)
/-- What is asked of each cover. -/
def EachC (x z : ByteArray) : Prop := isCoverR x z = (true, 0) ∧ uncoveredR x z = ([], 0) ∧ isSeedR x z = (true, 0) ∧ z.size ≤ 60 ∧ (z ≠ x → ((z.size : Nat) : Int) ∈ bordsR (bl x) x.size)
theorem each_cover {x z : ByteArray} (hx : IsW x) (h0 : 0 < x.size) (h : z ∈ cvs x) : EachC x z := by
  obtain ⟨⟨i, hi, e⟩, hc⟩ := cvs_iff.1 h
  have hs : z.size = i + 1 := by rw [e]; exact beg_size hi
  have hz : IsW z := by rw [e]; exact isW_cut hx _ _
  have h60 := hx.size
  refine ⟨by rw [isCoverR_ok ⟨hx, hz⟩ (by omega), hc], ?_, ?_, by omega, fun hne => cv_border h0 h hne⟩
  · rw [uncoveredR_ok ⟨hx, hz⟩ (by omega), unc_nil.2 hc]
  · rw [isSeedR_ok ⟨hx, hz⟩ (by omega), cv_seed hc]
theorem lc_superR {x : ByteArray} (hx : IsW x) (h0 : 0 < x.size) : superR (lc x) = (true, 0) ∧ (lc x).size ≤ 60 := by
  obtain ⟨⟨i, hi, e⟩, _⟩ := cvs_iff.1 (lc_mem h0)
  have hz : IsW (lc x) := by rw [e]; exact isW_cut hx _ _
  exact ⟨by rw [superR_ok hz, lc_super h0]; rfl, hz.size⟩
theorem gM (x : ByteArray) : ((coversR x).2 ≠ 0 ∨ x.size = 0) ∨ (IsW x ∧ 0 < x.size) := by
  by_cases h : IsW x
  · rcases Nat.eq_zero_or_pos x.size with h0 | h0
    · exact .inl (.inr h0)
    · exact .inr ⟨h, h0⟩
  · rw [coversR_bad h]; exact .inl (.inl (by decide))

end Go.Proofs.YtfipbnognjepkaaGreatDoor
