/- Texts of morphisms: the model. -/
import Derived.Test.YtjneebhbgogppabMorC
namespace Go.Proofs.Ytjneebhbgogppab
set_option linter.unusedVariables false
set_option linter.unusedSimpArgs false
open Go.RowKit

/-- The text of the first k images. -/
def txt (I : List (List UInt8)) : Nat → List UInt8
  | 0 => []
  | k + 1 => txt I k ++ (if k = 0 then [] else [44]) ++ I.getD k []
theorem txt_zero (I : List (List UInt8)) : txt I (0 + 1) = I.getD 0 [] := by simp [txt]
theorem txt_succ (I : List (List UInt8)) {i : Nat} (h : i ≠ 0) : txt I (i + 1) = txt I i ++ [44] ++ I.getD i [] := by rw [txt, if_neg h]
def txtR (I : List (List UInt8)) : ByteArray × Int := if ¬ Mor I then (tE, 1) else (bt (txt I I.length), 0)
theorem txtR_bad {I : List (List UInt8)} (h : ¬ Mor I) : txtR I = (⟨#[]⟩, 1) := if_pos h
theorem txtR_ok {I : List (List UInt8)} (h : Mor I) : txtR I = (bt (txt I I.length), 0) := by unfold txtR; rw [if_neg (not_not_intro h)]

set_option maxRecDepth 100000 in
set_option maxHeartbeats 1000000 in
theorem l06Text_any (B : Nat) (v : Value) (I : List (List UInt8)) (w : World) (h : OwnS w B v (I.map bt)) (g : Mor I) :
    Calls Try.prog 47 #[.agg #[v]] w fun e w' => e = .returned (.string (bt (txt I I.length))) ∧ Below w.heap.size w w' := by
  have h1 := g.len1
  have h5 := g.len5
  obtain ⟨p, cap, rfl, hg, hc, cell⟩ := h.rowM (by omega)
  have BN : Below w.heap.size w (w.alloc (.cells #[.slice (some ⟨p, 0, none⟩) I.length cap] 28)) := Below.new _ _
  have QN : Boxed (w.alloc (.cells #[.slice (some ⟨p, 0, none⟩) I.length cap] 28)) w.heap.size 28 (.slice (some ⟨p, 0, none⟩) I.length cap) := Boxed.new _ _ _
  have HBN := Lib.hid BN
  have HQN := Lib.hid QN
  have H := Lib.hid (h.below BN)
  have C := Lib.hid cell
  have G := Lib.hid g
  clear g h cell BN QN
  go_enter Try.func47, Try.ntmps47
  go_wp2_with fail
  obtain ⟨W1, hW1⟩ : ∃ W1 : World, W1 = w.alloc (.cells #[.slice (some ⟨p, 0, none⟩) I.length cap] 28) := ⟨_, rfl⟩
  have B1 := HBN.out
  have q1 := HQN.out
  rw [← hW1] at B1 q1 ⊢
  have Q1 := Lib.hid q1
  clear q1 hW1 HBN HQN H
  go_loopw [3, 4] (fun o s wr => ∃ (i : Nat) (r : ByteArray), i ≤ I.length ∧ s = .int .i64 (i : Int) ∧ o = .string r ∧ Hid (r = bt (txt I i)) ∧ r.size ≤ 13 * i ∧ wr = W1) (fun _ s _ => I.length - (intOf s).toNat)
  case atStart => exact ⟨0, ⟨#[]⟩, Nat.zero_le _, rfl, rfl, Lib.hid rfl, by show 0 ≤ _; omega, rfl⟩
  case round =>
    obtain ⟨i, r, hi, rfl, rfl, HR, hr, rfl⟩ := hrel
    have kr := Q1.out.cell
    by_cases hp : i < I.length
    · have kc : wr.cell? ⟨p, i, none⟩ = some (.string (bt (I[i]'hp))) := by rw [(bcell B1).1 p i hg]; exact C.out i hp
      have z12 : (bt (I[i]'hp)).size ≤ 12 := (G.out.im i hp).1
      have hge : I.getD i [] = I[i]'hp := by rw [List.getD_eq_getElem?_getD, List.getElem?_eq_getElem hp]; rfl
      have hic : i < cap := by omega
      by_cases h0 : i = 0
      · subst h0
        have hap : r ++ bt (I[0]'hp) = bt (txt I (0 + 1)) := by rw [txt_zero, hge, HR.out, bt_app]; rfl
        have HAP := Lib.hid hap
        clear hap hge
        generalize bt (I[0]'hp) = z at *
        have hs := ByteArray.size_append (a := r) (b := z)
        have HS := Lib.hid hs
        clear hs
        go_wp2_with fail
        go_roundw
        case rel => exact ⟨0 + 1, r ++ z, by omega, by go_num, rfl, HAP, by have := HS.out; omega, by first | rfl | trivial⟩
        case measure => simp [intOf]; omega
      · have hap : (r ++ ⟨#[44]⟩) ++ bt (I[i]'hp) = bt (txt I (i + 1)) := by
          rw [txt_succ I h0, hge, HR.out, show (⟨#[44]⟩ : ByteArray) = bt [44] from rfl, bt_app, bt_app]
        have HAP := Lib.hid hap
        have hi0 : 0 < i := by omega
        clear hap hge h0
        generalize bt (I[i]'hp) = z at *
        have hs1 := ByteArray.size_append (a := r) (b := ⟨#[44]⟩)
        have h44 : (⟨#[44]⟩ : ByteArray).size = 1 := rfl
        have hs := ByteArray.size_append (a := r ++ ⟨#[44]⟩) (b := z)
        have HS := Lib.hid hs
        have HS1 := Lib.hid hs1
        have hr1 : (r ++ (⟨#[44]⟩ : ByteArray)).size ≤ 13 * i + 1 := by omega
        clear hs hs1 h44
        go_wp2_with fail
        go_roundw
        case rel => exact ⟨i + 1, r ++ ⟨#[44]⟩ ++ z, by omega, by go_num, rfl, HAP, by have := HS.out; omega, by first | rfl | trivial⟩
        case measure => simp [intOf]; omega
    · have hie : i = I.length := by omega
      subst hie
      go_wp2_with fail
      go_ret
      exact ⟨by rw [← HR.out]; rfl, B1⟩

set_option maxRecDepth 100000 in
theorem spec_MorphismText (B : Nat) (v : Value) (I : List (List UInt8)) (w : World) (h : OwnS w B v (I.map bt)) (t : Tot I) :
    Calls Try.prog 8 #[.agg #[v]] w fun e w' => e = .returned (.tuple #[.string (txtR I).1, .int .i64 (txtR I).2]) ∧ Below w.heap.size w w' := by
  obtain ⟨p, c, hv⟩ := ownS_value h
  rw [List.length_map] at hv
  subst hv
  have hI := t.1
  have BN : Below w.heap.size w (w.alloc (.cells #[.slice p I.length c] 28)) := Below.new _ _
  have QN : Boxed (w.alloc (.cells #[.slice p I.length c] 28)) w.heap.size 28 (.slice p I.length c) := Boxed.new _ _ _
  have HBN := Lib.hid BN
  have HQN := Lib.hid QN
  have H := Lib.hid (h.below BN)
  clear BN QN h
  by_cases g : Mor I
  · rw [txtR_ok g]
    have c1 := fun W h => l06Is_yes B (.slice p I.length c) I W h g
    have c2 := fun W h => l06Text_any B (.slice p I.length c) I W h g
    generalize bt (txt I I.length) = y at c2 ⊢
    have C1 := Lib.hid c1
    have C2 := Lib.hid c2
    clear c1 c2 g
    go_enter Try.func8, Try.ntmps8
    go_wp2_with fail
    refine (C1.out _ H.out).mono ?_
    rintro e w1 ⟨rfl, b1⟩
    have kq := (boxed_later HQN.out b1).cell
    have B1 := HBN.out.then b1
    go_wp2_with fail
    refine (C2.out _ (H.out.below b1)).mono ?_
    rintro e w2 ⟨rfl, b2⟩
    have B2 := B1.then b2
    go_wp2_with fail
    go_ret2
    exact ⟨rfl, B2⟩
  · rw [txtR_bad g]
    have c1 := fun W h => l06Is_no B (.slice p I.length c) I W h t g
    have C1 := Lib.hid c1
    clear c1 g
    go_enter Try.func8, Try.ntmps8
    go_wp2_with fail
    refine (C1.out _ H.out).mono ?_
    rintro e w1 ⟨rfl, b1⟩
    have B1 := HBN.out.then b1
    go_wp2_with fail
    go_ret2
    exact ⟨rfl, B1⟩
end Go.Proofs.Ytjneebhbgogppab
