/- Slices of numbers: alike, marked, still marked. -/
import Derived.Test.YtfipbnognjepkaaOwn
namespace Go.Proofs.Ytfipbnognjepkaa
set_option linter.unusedVariables false
set_option linter.unusedSimpArgs false
open Go.RowKit

theorem infoI64 : (Try.prog.info? 2).map (fun i => (i.zero, i.size, i.bytes)) = some (some (.int .i64 0), 1, 8) := by kernel_rfl

/-- A slice of numbers that a call made: what it reads as. -/
def OwnI (w : World) (B : Nat) (v : Value) (L : List Int) : Prop := w.ownsRow B 2 1 v L.length (L.map (Value.int .i64))
theorem OwnI.below {w w' : World} {B : Nat} {v : Value} {L : List Int} (h : OwnI w B v L) (b : Below w.heap.size w w') : OwnI w' B v L := own_below h b
theorem OwnI.nil (w : World) (B : Nat) : OwnI w B (.slice none 0 0) [] := World.ownsRow_nil _ _ _ _
theorem OwnI.base {w : World} {B B' : Nat} {v : Value} {L : List Int} (h : OwnI w B v L) (hb : B' ≤ B) : OwnI w B' v L := own_base h hb
theorem OwnI.empty {w : World} {B : Nat} {v : Value} (h : OwnI w B v []) : ∃ a c, v = .slice a 0 c := by
  rcases own_forms h with ⟨rfl, _, _⟩ | ⟨g, cap, rfl, _⟩
  · exact ⟨_, _, rfl⟩
  · exact ⟨_, _, rfl⟩
theorem OwnI.row {w : World} {B : Nat} {v : Value} {L : List Int} (h : OwnI w B v L) (hn : 0 < L.length) :
    ∃ g cap, v = .slice (some ⟨g, 0, none⟩) L.length cap ∧ B ≤ g ∧ g < w.heap.size ∧ L.length ≤ cap ∧ L.length ≤ maxLen ∧ (∀ j (hj : j < L.length), w.cell? ⟨g, j, none⟩ = some (.int .i64 (L[j]'hj))) ∧ (∀ j, w.frozen? ⟨g, j, none⟩ = false) := by
  rcases own_forms h with ⟨_, h0, _⟩ | ⟨g, cap, rfl, h1, h2, h3, h4, h5, h6⟩
  · omega
  · refine ⟨g, cap, rfl, h1, h2, h3, h4, fun j hj => ?_, h6⟩
    rw [h5 j hj]
    simp [hj]
theorem OwnI.lit0 (w : World) {B : Nat} (h : B ≤ w.heap.size) : OwnI (w.alloc (.cells #[] 2)) B (.slice (some ⟨w.heap.size, 0, none⟩) 0 0) [] := own_base (World.ownsRow_lit w #[] 0 (Nat.le_refl _) (by decide) (by simp)) h
/-- What a function that hands back a slice of numbers and a code comes to. -/
def RetI (L : List Int) (c : Int) (w : World) (e : Ending) (w' : World) : Prop := ∃ v, e = .returned (.tuple #[v, .int .i64 c]) ∧ OwnI w' w.heap.size v L ∧ Below w.heap.size w w'

set_option maxRecDepth 100000 in
theorem eqI_yes (B1 B2 : Nat) (v1 v2 : Value) (L : List Int) (w : World) (h1 : OwnI w B1 v1 L) (h2 : OwnI w B2 v2 L) :
    Calls Try.prog 54 #[v1, v2] w fun e w' => e = .returned (.bool true) ∧ Below w.heap.size w w' := by
  by_cases h0 : L = []
  · subst h0
    obtain ⟨a1, c1, rfl⟩ := h1.empty
    obtain ⟨a2, c2, rfl⟩ := h2.empty
    clear h1 h2
    go_enter Try.func54, Try.ntmps54
    go_wp2
    refine wp_loop_rounds 1 ?_
    rw [rounds_succ]
    go_wp2
    go_ret
    exact ⟨rfl, Below.refl _ _⟩
  · have hn : 0 < L.length := List.length_pos_iff.2 h0
    obtain ⟨g1, c1, rfl, _, hg1, hc1, hm, cell1, _⟩ := h1.row hn
    obtain ⟨g2, c2, rfl, _, hg2, hc2, _, cell2, _⟩ := h2.row hn
    unfold maxLen at hm
    have C1 := Lib.hid cell1
    have C2 := Lib.hid cell2
    clear h1 h2 cell1 cell2 h0
    go_enter Try.func54, Try.ntmps54
    go_wp2
    go_loopw [5] (fun i wr => ∃ k : Nat, k ≤ L.length ∧ i = .int .i64 k ∧ Below w.heap.size w wr) (fun i _ => L.length - (intOf i).toNat)
    case atStart => exact ⟨0, Nat.zero_le _, rfl, Below.refl _ _⟩
    case round =>
      obtain ⟨k, hk, rfl, hB⟩ := hrel
      by_cases hp : k < L.length
      · have k1 : wr.cell? ⟨g1, k, none⟩ = some (.int .i64 (L[k]'hp)) := by rw [(bcell hB).1 g1 k hg1]; exact C1.out k hp
        have k2 : wr.cell? ⟨g2, k, none⟩ = some (.int .i64 (L[k]'hp)) := by rw [(bcell hB).1 g2 k hg2]; exact C2.out k hp
        have hpc1 : k < c1 := by omega
        have hpc2 : k < c2 := by omega
        generalize L[k]'hp = z at k1 k2
        go_wp2
        go_quiet (fail)
        go_wp2
        go_roundw
        case rel => exact ⟨k + 1, by omega, by go_num, hB.drewN _⟩
        case measure => simp [intOf]; omega
      · go_wp2
        go_ret
        exact ⟨rfl, hB⟩

/-- The numbers from m on. -/
def marks (m : Int) (n : Nat) : List Int := (List.range n).map fun (j : Nat) => m + (j : Int)
theorem marks_len (m : Int) (n : Nat) : (marks m n).length = n := by simp [marks]
theorem marks_get (m : Int) (n j : Nat) (h : j < (marks m n).length) : (marks m n)[j]'h = m + j := by simp [marks]
theorem marks_step (m : Int) (L : List Int) (k : Nat) (h : k < L.length) : ((marks m k ++ L.drop k).map (Value.int .i64)).set k (.int .i64 (m + k)) = (marks m (k + 1) ++ L.drop (k + 1)).map (Value.int .i64) := by
  apply List.ext_getElem
  · simp [marks]; omega
  · intro i h1 h2
    simp only [List.getElem_set, List.getElem_map]
    by_cases e : k = i
    · subst e
      simp [marks, List.getElem_append]
    · rw [if_neg e]
      congr 1
      simp only [List.getElem_append, marks_len]
      by_cases h3 : i < k
      · rw [dif_pos h3, dif_pos (by omega)]
        simp [marks]
      · rw [dif_neg h3, dif_neg (by omega)]
        simp only [List.getElem_drop]
        congr 1
        omega

theorem grown_set {w w' : World} {g : Nat} (h : w.grownBy w' (some g)) (j : Nat) (u : Value) : w.grownBy (w'.setCell ⟨g, j, none⟩ u) (some g) :=
  ⟨h.os, h.tape, h.output, by simpa [World.setCell] using h.size, fun k hk hne => by
    rw [Below.heap_setCell _ _ _ _ (by intro e; exact hne (by rw [e]))]
    exact h.block k hk hne⟩
theorem grown_refl (w : World) (r : Option Nat) : w.grownBy w r := ⟨rfl, rfl, rfl, Nat.le_refl _, fun _ _ _ => rfl⟩

set_option maxRecDepth 100000 in
theorem markI (B : Nat) (v : Value) (L : List Int) (m : Int) (w : World) (h : OwnI w B v L) (m0 : 0 ≤ m) (m1 : m ≤ 1152921504606846976) (hl : L.length ≤ 1152921504606846976) :
    Calls Try.prog 55 #[v, .int .i64 m] w fun e w' => e = .returned (.int .i64 (m + L.length)) ∧ OwnI w' B v (marks m L.length) ∧ w.grownBy w' v.ownBlock := by
  by_cases h0 : L = []
  · subst h0
    obtain ⟨a1, c1, rfl⟩ := h.empty
    have H := Lib.hid h
    clear h
    go_enter Try.func55, Try.ntmps55
    go_wp2
    refine wp_loop_rounds 1 ?_
    rw [rounds_succ]
    go_wp2
    go_ret
    exact ⟨by simp, by simpa [marks] using H.out, grown_refl _ _⟩
  · have hn : 0 < L.length := List.length_pos_iff.2 h0
    obtain ⟨g, c, rfl, hBg, hg, hc, hm, _, _⟩ := h.row hn
    have H := Lib.hid h
    clear h h0
    go_enter Try.func55, Try.ntmps55
    go_wp2
    go_loopw [1, 5] (fun q i wr => ∃ k : Nat, k ≤ L.length ∧ i = .int .i64 k ∧ q = .int .i64 (m + k) ∧ wr.ownsRow B 2 1 (.slice (some ⟨g, 0, none⟩) L.length c) L.length ((marks m k ++ L.drop k).map (Value.int .i64)) ∧ w.grownBy wr (some g))
      (fun _ i _ => L.length - (intOf i).toNat)
    case atStart => exact ⟨0, Nat.zero_le _, rfl, by simp, by have := H.out; unfold OwnI at this; simpa [marks] using this, grown_refl _ _⟩
    case round =>
      obtain ⟨k, hk, rfl, rfl, hown, hgr⟩ := hrel
      by_cases hp : k < L.length
      · have k1 : wr.cell? ⟨g, k, none⟩ = some (.int .i64 (L[k]'hp)) := by
          rw [hown.cellAt k (by omega)]
          simp [marks, List.getElem?_append, hp]
        have k2 : wr.frozen? ⟨g, k, none⟩ = false := hown.frozenAt k
        have hst := hown.stored k (.int .i64 (m + k))
        rw [marks_step m L k hp] at hst
        have HS := Lib.hid hst
        have hpc : k < c := by omega
        generalize L[k]'hp = z at k1
        clear hst hown
        go_wp2
        go_roundw
        case rel => exact ⟨k + 1, by omega, by go_num, by go_num, HS.out.1, grown_set hgr _ _⟩
        case measure => simp [intOf]; omega
      · have hke : k = L.length := by omega
        subst hke
        have HO := Lib.hid hown
        clear hown
        go_wp2
        go_ret
        refine ⟨rfl, ?_, hgr⟩
        have h2 := HO.out
        rw [List.drop_of_length_le (Nat.le_refl _), List.append_nil] at h2
        unfold OwnI
        rw [marks_len]
        exact h2

set_option maxRecDepth 100000 in
theorem heldI (B : Nat) (v : Value) (n : Nat) (m : Int) (w : World) (h : OwnI w B v (marks m n)) (m0 : 0 ≤ m) (m1 : m ≤ 1152921504606846976) (hl : n ≤ 1152921504606846976) :
    Calls Try.prog 56 #[v, .int .i64 m] w fun e w' => e = .returned (.int .i64 (m + n)) ∧ Below w.heap.size w w' := by
  by_cases h0 : n = 0
  · subst h0
    obtain ⟨a1, c1, rfl⟩ := OwnI.empty (show OwnI w B v [] by simpa [marks] using h)
    clear h
    go_enter Try.func56, Try.ntmps56
    go_wp2
    refine wp_loop_rounds 1 ?_
    rw [rounds_succ]
    go_wp2
    go_ret
    exact ⟨by simp, Below.refl _ _⟩
  · have hn : 0 < (marks m n).length := by rw [marks_len]; omega
    obtain ⟨g, c, hv, hBg, hg, hc, hm, cell, _⟩ := h.row hn
    rw [marks_len] at hv hc
    subst hv
    have C := Lib.hid cell
    clear h h0 cell
    go_enter Try.func56, Try.ntmps56
    go_wp2
    go_loopw [1, 5] (fun q i wr => ∃ k : Nat, k ≤ n ∧ i = .int .i64 k ∧ q = .int .i64 (m + k) ∧ wr = w) (fun _ i _ => n - (intOf i).toNat)
    case atStart => exact ⟨0, Nat.zero_le _, rfl, by simp, rfl⟩
    case round =>
      obtain ⟨k, hk, rfl, rfl, rfl⟩ := hrel
      by_cases hp : k < n
      · have k1 : wr.cell? ⟨g, k, none⟩ = some (.int .i64 (m + k)) := by
          rw [C.out k (by rw [marks_len]; exact hp), marks_get]
        have hpc : k < c := by omega
        go_wp2
        go_roundw
        case rel => exact ⟨k + 1, by omega, by go_num, by go_num, by first | rfl | trivial⟩
        case measure => simp [intOf]; omega
      · have hke : k = n := by omega
        subst hke
        go_wp2
        go_ret
        exact ⟨rfl, Below.refl _ _⟩

/-- Another slice, in an older block, is kept while one is marked. -/
theorem OwnI.kept {w w' : World} {B B' : Nat} {v u : Value} {L M : List Int} (h : OwnI w B v L) (hu : OwnI w B' u M) (hlt : ∀ k, v.ownBlock = some k → k < B') (hg : w.grownBy w' u.ownBlock) : OwnI w' B v L := by
  refine World.ownsRow.kept h hg ?_
  cases hv : v.ownBlock with
  | none => exact .inl rfl
  | some k =>
    refine .inr fun e => ?_
    have h1 := hlt k hv
    have h2 := (World.ownsRow.lt hu k e.symm).1
    omega
theorem OwnI.lt {w : World} {B : Nat} {v : Value} {L : List Int} (h : OwnI w B v L) : ∀ k, v.ownBlock = some k → B ≤ k ∧ k < w.heap.size := World.ownsRow.lt h
/-- Behind a marking, older blocks stand. -/
theorem below_markedI {W w w' : World} {B : Nat} {v : Value} {L : List Int} (b : Below W.heap.size W w) (h : OwnI w B v L) (hB : W.heap.size ≤ B) (hg : w.grownBy w' v.ownBlock) : Below W.heap.size W w' :=
  b.grown hg b.size fun k e => Nat.le_trans hB (h.lt k e).1

end Go.Proofs.Ytfipbnognjepkaa
