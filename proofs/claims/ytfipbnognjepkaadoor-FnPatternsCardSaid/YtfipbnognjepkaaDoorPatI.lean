/- Patterns: the test; the searches behind their doors. -/
import Derived.Test.YtfipbnognjepkaaDoorFitC
import Derived.Shelf.Strings.SlTrimAscii
namespace Go.Proofs.YtfipbnognjepkaaDoor
set_option linter.unusedVariables false
set_option linter.unusedSimpArgs false
open Go.RowKit

theorem drop_all {l cs : List UInt8} : l.dropWhile (cs.contains ·) = [] ↔ l.all (cs.contains ·) = true := by
  induction l with
  | nil => simp
  | cons a l ih =>
    by_cases h : cs.contains a = true
    · rw [List.dropWhile_cons, if_pos h, List.all_cons, h, Bool.true_and]; exact ih
    · rw [List.dropWhile_cons, if_neg h, List.all_cons]
      simp at h
      simp [h]
theorem trim_all {l cs : List UInt8} : Lib.trimS l cs = [] ↔ l.all (cs.contains ·) = true := by
  unfold Lib.trimS Lib.trimRightS Lib.trimLeftS
  rw [drop_all, List.all_reverse]
  constructor
  · intro h
    have e : l.reverse.dropWhile (cs.contains ·) = [] := by
      cases q : l.reverse.dropWhile (cs.contains ·) with
      | nil => rfl
      | cons a t =>
        exfalso
        have h1 := h
        rw [q, List.all_cons, Bool.and_eq_true] at h1
        have h2 := List.head_dropWhile_not (l := l.reverse) (cs.contains ·) (by rw [q]; simp)
        simp only [q, List.head_cons] at h2
        rw [h1.1] at h2; cases h2
    have := drop_all.1 e
    rwa [List.all_reverse] at this
  · intro h
    have : l.reverse.dropWhile (cs.contains ·) = [] := drop_all.2 (by rw [List.all_reverse]; exact h)
    rw [this]; rfl
theorem isP_all {p : ByteArray} : (bl p).all ([65, 66, 67].contains ·) = true ↔ ∀ i (h : i < p.size), 65 ≤ (p[i]'h).toNat ∧ (p[i]'h).toNat ≤ 67 := by
  rw [List.all_eq_true]
  constructor
  · intro h i hi
    have := h (p[i]'hi) (List.getElem_mem (l := bl p) (n := i) hi)
    simp at this
    rcases this with e | e | e <;> rw [e] <;> decide
  · intro h c hc
    obtain ⟨i, hi, rfl⟩ := List.getElem_of_mem hc
    have := h i hi
    have e : (bl p)[i]'hi = p[i]'hi := rfl
    rw [e]
    simp
    have h3 : (p[i]'hi).toNat = 65 ∨ (p[i]'hi).toNat = 66 ∨ (p[i]'hi).toNat = 67 := by omega
    rcases h3 with q | q | q
    · exact .inl (UInt8.toNat_inj.1 q)
    · exact .inr (.inl (UInt8.toNat_inj.1 q))
    · exact .inr (.inr (UInt8.toNat_inj.1 q))
theorem trim_abc (p : ByteArray) (w : World) (hs : p.size ≤ 1000000) :
    Calls Tryd.prog 128 #[.string p, .string abc] w fun e w' => e = .returned (.string ⟨(Lib.trimS p.data.toList [65, 66, 67]).toArray⟩) ∧ Below w.heap.size w w' :=
  Any.strings_Trim_laid Tryd.lays160 (by kernel_rfl) p abc w (by omega) (by decide) (ascii_of_all (by decide))

set_option maxRecDepth 100000 in
theorem isPattern_yes (p : ByteArray) (hp : IsP p) (w : World) :
    Calls Tryd.prog 62 #[.string p] w fun e w' => e = .returned (.bool true) ∧ Below w.heap.size w w' := by
  have h8 := hp.2.1
  have hne : p.toList.isEmpty = false := by
    cases e : p.toList with
    | nil => rw [ByteArray.toList_eq] at e; have h1 : p.size = 0 := congrArg List.length e; have h2 := hp.1; omega
    | cons a t => rfl
  have ht : (⟨(Lib.trimS p.data.toList [65, 66, 67]).toArray⟩ : ByteArray) = ⟨#[]⟩ := by rw [trim_all.2 (isP_all.2 hp.2.2)]
  have CT := Lib.hid (fun W => by have h := trim_abc p W (by omega); rw [ht] at h; exact h)
  clear ht
  go_enter Tryd.func62, Tryd.ntmps62
  go_wp2_with (go_at_call 128; (with_reducible refine (CT.out _).mono ?_); rintro e w1 ⟨rfl, b1⟩)
  go_ret
  exact ⟨rfl, b1⟩

set_option maxRecDepth 100000 in
theorem isPattern_no (p : ByteArray) (hs : p.size ≤ maxLen) (hp : ¬ IsP p) (w : World) :
    Calls Tryd.prog 62 #[.string p] w fun e w' => e = .returned (.bool false) ∧ Below w.heap.size w w' := by
  unfold maxLen at hs
  by_cases h0 : p.size = 0
  · have e : p = ⟨#[]⟩ := by
      apply bl_inj
      have : (bl p).length = 0 := h0
      exact List.length_eq_zero_iff.1 this
    subst e
    clear hp
    go_enter Tryd.func62, Tryd.ntmps62
    go_wp2
    go_ret
    exact ⟨rfl, Below.refl _ _⟩
  · have hne : p.toList.isEmpty = false := by
      cases e : p.toList with
      | nil => rw [ByteArray.toList_eq] at e; exact absurd (congrArg List.length e : p.size = 0) h0
      | cons a t => rfl
    by_cases h8 : 8 < p.size
    · clear hp
      go_enter Tryd.func62, Tryd.ntmps62
      go_wp2
      go_ret
      exact ⟨rfl, Below.refl _ _⟩
    · have h8' : p.size ≤ 8 := by omega
      have hn : Lib.trimS p.data.toList [65, 66, 67] ≠ [] := fun e => hp ⟨by omega, h8', isP_all.1 (trim_all.1 e)⟩
      obtain ⟨y, hy⟩ : ∃ y : ByteArray, (⟨(Lib.trimS p.data.toList [65, 66, 67]).toArray⟩ : ByteArray) = y := ⟨_, rfl⟩
      have hye : y.toList.isEmpty = false := by
        cases e : y.toList with
        | nil =>
          exfalso
          apply hn
          have h1 : bl y = [] := by
            rw [ByteArray.toList_eq] at e
            exact e
          rw [← hy] at h1
          exact h1
        | cons a t => rfl
      have CT := Lib.hid (fun W => by have h := trim_abc p W (by omega); rw [hy] at h; exact h)
      clear hn hy hp
      go_enter Tryd.func62, Tryd.ntmps62
      go_wp2_with (go_at_call 128; (with_reducible refine (CT.out _).mono ?_); rintro e w1 ⟨rfl, b1⟩)
      go_ret
      exact ⟨rfl, b1⟩

set_option maxRecDepth 100000 in
set_option maxHeartbeats 2000000 in
theorem wholeFits_any (p x : ByteArray) (hp : IsP p) (hx : IsW x) (w : World) :
    Calls Tryd.prog 81 #[.string x, .string p] w fun e w' => e = .returned (.bool (fitsB (bl x) (bl p))) ∧ Below w.heap.size w w' := by
  have hr : fitsB (bl x) (bl p) = ((fitL (bl x) (bl p) x.size).map fun W => ((0 : Nat), W)).isSome := by unfold fitsB; rw [Option.isSome_map, bl_len]
  rw [hr]
  generalize hrr : ((fitL (bl x) (bl p) x.size).map fun W => ((0 : Nat), W)) = r at *
  have CF := Lib.hid (fun (W : World) (c1 : W.cell? ⟨w.heap.size + 1, 0, none⟩ = some (.string p)) (c2 : W.cell? ⟨w.heap.size, 0, none⟩ = some (.string x)) => by
    have h := whole_body p x hp hx (w.heap.size + 1) w.heap.size W c1 c2
    rw [hrr] at h
    exact h)
  clear hrr hr
  have hs : ∀ W : World, (fdW W).heap.size = W.heap.size + 2 := fun W => by simp [fdW]
  cases r with
  | none =>
    go_enter Tryd.func81, Tryd.ntmps81
    go_wp2_with (go_at_call 133; refine (fitFoundBy_any 142 _ _ p x none (enters_of Tryd.func142 (by kernel_rfl) rfl) (CF.out _ (by simp [fdW, go_sem]) (by simp [fdW, go_sem]))).mono ?_; rintro e w1 ⟨b1, g, hg, he, hL⟩; obtain rfl : e = .returned (.tuple #[.agg #[.int .i64 0, .slice none 0 0], .bool false]) := he)
    go_ret
    exact ⟨rfl, ((((Below.new w _).alloc (by simp) _).then b1).alloc (by have := b1.size; simp at this; omega) _)⟩
  | some iW =>
    obtain ⟨i, W⟩ := iW
    go_enter Tryd.func81, Tryd.ntmps81
    go_wp2_with (go_at_call 133; refine (fitFoundBy_any 142 _ _ p x (some (i, W)) (enters_of Tryd.func142 (by kernel_rfl) rfl) (CF.out _ (by simp [fdW, go_sem]) (by simp [fdW, go_sem]))).mono ?_; rintro e w1 ⟨b1, g, hg, he, hL⟩; obtain ⟨v1, rfl, hown⟩ := he; obtain ⟨va, vn, vc, rfl⟩ := hown.shape)
    go_ret
    exact ⟨rfl, ((((Below.new w _).alloc (by simp) _).then b1).alloc (by have := b1.size; simp at this; omega) _)⟩

end Go.Proofs.YtfipbnognjepkaaDoor
