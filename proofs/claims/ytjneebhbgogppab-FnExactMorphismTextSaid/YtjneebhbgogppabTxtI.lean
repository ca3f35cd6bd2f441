/- Texts of morphisms: the program. -/
import Derived.Test.YtjneebhbgogppabTxtS
import Derived.Test.YtjneebhbgogppabMorP
import Derived.Test.YtjneebhbgogppabLib
namespace Go.Proofs.Ytjneebhbgogppab
set_option linter.unusedVariables false
set_option linter.unusedSimpArgs false
open Go.RowKit

theorem inter_snoc (l : List (List UInt8)) (hl : l ≠ []) (x : List UInt8) : [44].intercalate (l ++ [x]) = [44].intercalate l ++ [44] ++ x := by
  induction l with
  | nil => exact absurd rfl hl
  | cons a l ih =>
    cases l with
    | nil => simp [List.intercalate, List.intersperse]
    | cons b l =>
      have := ih (by simp)
      simp only [List.cons_append, List.intercalate, List.intersperse, List.flatten_cons] at this ⊢
      rw [this]
      simp [List.append_assoc]
theorem join_txt (I : List (List UInt8)) : ∀ k, k ≤ I.length → [44].intercalate (I.take k) = txt I k
  | 0, _ => rfl
  | k + 1, h => by
    have hk : k < I.length := h
    rw [List.take_succ_eq_append_getElem hk]
    have hge : I.getD k [] = I[k]'hk := by rw [List.getD_eq_getElem?_getD, List.getElem?_eq_getElem hk]; rfl
    by_cases h0 : k = 0
    · subst h0
      rw [txt_zero, hge]
      simp [List.intercalate, List.intersperse]
    · rw [inter_snoc _ (fun e => h0 (by have h2 := congrArg List.length e; rw [List.length_take] at h2; simp only [List.length_nil] at h2; omega)), join_txt I k (by omega), txt_succ I h0, hge]
theorem txt_len {I : List (List UInt8)} (g : Mor I) : ∀ k, k ≤ I.length → (txt I k).length ≤ 13 * k
  | 0, _ => Nat.zero_le _
  | k + 1, h => by
    have hk : k < I.length := h
    have h1 := txt_len g k (by omega)
    have hge : I.getD k [] = I[k]'hk := by rw [List.getD_eq_getElem?_getD, List.getElem?_eq_getElem hk]; rfl
    have h2 : (I[k]'hk).length ≤ 12 := (g.im k hk).1
    by_cases h0 : k = 0
    · subst h0; rw [txt_zero, hge]; omega
    · rw [txt_succ I h0, hge, List.length_append, List.length_append, List.length_singleton]; omega

set_option maxRecDepth 100000 in
set_option maxHeartbeats 1000000 in
theorem impl_MorphismText (B : Nat) (v : Value) (I : List (List UInt8)) (w : World) (h : OwnS w B v (I.map bt)) (t : Tot I) :
    Calls Try.prog 10 #[.agg #[v]] w fun e w' => e = .returned (.tuple #[.string (txtR I).1, .int .i64 (txtR I).2]) ∧ Below w.heap.size w w' := by
  by_cases g : Mor I
  · rw [txtR_ok g]
    have h1 := g.len1
    have h5 := g.len5
    obtain ⟨p, cap, rfl, hg, hc, cell⟩ := h.rowM (by omega)
    have BN : Below w.heap.size w (w.alloc (.cells #[.slice (some ⟨p, 0, none⟩) I.length cap] 28)) := Below.new _ _
    have QN : Boxed (w.alloc (.cells #[.slice (some ⟨p, 0, none⟩) I.length cap] 28)) w.heap.size 28 (.slice (some ⟨p, 0, none⟩) I.length cap) := Boxed.new _ _ _
    have HBN := Lib.hid BN
    have HQN := Lib.hid QN
    have H := Lib.hid (h.below BN)
    have C := Lib.hid cell
    have G := Lib.hid g
    have c1 := fun W h => isMor_yes B (.slice (some ⟨p, 0, none⟩) I.length cap) I W h g
    have hjl : (Lib.join ((I.map bt).map (·.data.toList)) (⟨#[44]⟩ : ByteArray).data.toList) = txt I I.length := by
      rw [List.map_map]
      have e1 : ((fun x : ByteArray => x.data.toList) ∘ bt) = id := by funext l; simp [bt]
      rw [e1, List.map_id, ← join_txt I I.length (Nat.le_refl _), List.take_length]
      rfl
    have htl := txt_len g I.length (Nat.le_refl _)
    have c2 := fun W (hcell : ∀ j (hj : j < I.length), W.cell? ⟨p, j, none⟩ = some (.string (bt (I[j]'hj)))) (hlt : p < W.heap.size) => Try.strings_Join p 0 cap (I.map bt) ⟨#[44]⟩ W (fun j x hx => by
      obtain ⟨hj, rfl⟩ := List.getElem?_eq_some_iff.1 hx
      have := hcell j (by simpa using hj)
      rw [Nat.zero_add, this, List.getElem_map]) hlt (by simp; omega) (by simpa using hc) (by rw [hjl]; omega)
    rw [hjl] at c2
    simp only [List.length_map] at c2
    have hys : (bt (txt I I.length)).size ≤ 65 := by show (txt I I.length).length ≤ 65; omega
    have C1 := Lib.hid c1
    have C2 := Lib.hid c2
    clear c1 c2 g h cell BN QN hjl htl
    go_enter Try.func10, Try.ntmps10
    go_wp2_with fail
    refine (C1.out _ H.out).mono ?_
    rintro e w1 ⟨rfl, b1⟩
    have kq := (boxed_later HQN.out b1).cell
    have B1 := HBN.out.then b1
    go_wp2_with fail
    refine (C2.out _ (fun j hj => by rw [(bcell B1).1 p j hg]; exact C.out j hj) (Nat.lt_of_lt_of_le hg B1.size)).mono ?_
    rintro e w2 ⟨rfl, b2⟩
    have B2 := B1.then b2
    go_wp2_with fail
    refine (strings_Clone (bt (txt I I.length)) _ (by omega)).mono ?_
    rintro e w3 ⟨rfl, b3⟩
    have B3 := B2.then b3
    go_wp2_with fail
    go_ret2
    exact ⟨rfl, B3⟩
  · obtain ⟨p, c, hv⟩ := ownS_value h
    rw [List.length_map] at hv
    subst hv
    have hI := t.1
    have BN : Below w.heap.size w (w.alloc (.cells #[.slice p I.length c] 28)) := Below.new _ _
    have QN : Boxed (w.alloc (.cells #[.slice p I.length c] 28)) w.heap.size 28 (.slice p I.length c) := Boxed.new _ _ _
    have HBN := Lib.hid BN
    have HQN := Lib.hid QN
    have H := Lib.hid (h.below BN)
    clear BN QN h
    rw [txtR_bad g]
    have c1 := fun W h => isMor_no B (.slice p I.length c) I W h t g
    have C1 := Lib.hid c1
    clear c1 g
    go_enter Try.func10, Try.ntmps10
    go_wp2_with fail
    refine (C1.out _ H.out).mono ?_
    rintro e w1 ⟨rfl, b1⟩
    have B1 := HBN.out.then b1
    go_wp2_with fail
    go_ret2
    exact ⟨rfl, B1⟩
end Go.Proofs.Ytjneebhbgogppab
