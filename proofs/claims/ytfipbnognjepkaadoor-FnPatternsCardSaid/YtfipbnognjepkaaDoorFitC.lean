/- The searches: a whole word, the end of a word; what their doors hand back. -/
import Derived.Test.YtfipbnognjepkaaDoorFitB
namespace Go.Proofs.YtfipbnognjepkaaDoor
set_option linter.unusedVariables false
set_option linter.unusedSimpArgs false
open Go.RowKit

/-- What a search hands back. -/
def FoundRet (p x : ByteArray) (r : Option (Nat × (Nat → List UInt8))) (w : World) (e : Ending) (w' : World) : Prop := Below w.heap.size w w' ∧ ∃ g, w.heap.size ≤ g ∧ FitRet g (bl x) (vsOf (bl p)) w.heap.size r e w' ∧ LettersAt w' g (bl x)
theorem LettersAt.set {w : World} {g : Nat} {X : List UInt8} (h : LettersAt w g X) (a : Addr) (u : Value) (ha : a.block ≠ g) : LettersAt (w.setCell a u) g X :=
  h.kept (b := a.block) (grown_setF w a u) (Ne.symm ha)

set_option maxRecDepth 100000 in
set_option maxHeartbeats 2000000 in
theorem fitFoundBy_any (K : Nat) (caps : Array Value) (w : World) (p x : ByteArray) (r : Option (Nat × (Nat → List UInt8))) (hent : ∀ args W, (callFunc K args).run Tryd.prog W = .ok (.enter K args) W)
    (hw : Calls Tryd.prog K caps (fdW w) (FoundBy p x r (fdW w))) :
    Calls Tryd.prog 133 #[.func (.func K) #[] caps] w (FoundRet p x r w) := by
  have hmf : ∀ (fn : Fn) (first cap : Array Value) (w : World), (Instr.makeFunc fn first cap).run Tryd.prog w = .ok (.func fn first cap) w := fun _ _ _ _ => rfl
  have hB0 : Below w.heap.size w (fdW w) := (Below.new _ _).alloc (by simp) _
  have hs : w.heap.size ≤ (fdW w).heap.size := hB0.size
  have hs2 : (fdW w).heap.size = w.heap.size + 2 := by simp [fdW]
  cases r with
  | none =>
    go_enter_defers Tryd.func133, Tryd.ntmps133
    go_wp2_with (go_at_fn K; refine hw.mono ?_; rintro e w' ⟨g, hg, he, hL, hB⟩; obtain rfl : e = .returned (.tuple #[]) := he; obtain ⟨⟨hc0, hc1, hc2⟩, hz0, hz1, hz2⟩ := fd_cells hB)
    refine leaves_cons (f := 179) (args := #[.pointer (some ⟨w.heap.size, 0, none⟩), .pointer (some ⟨w.heap.size + 1, 0, none⟩)]) (by simp) (by simp [go_sem]) ?_
    refine (catch_F_idle ⟨w.heap.size, 0, none⟩ ⟨w.heap.size + 1, 0, none⟩ _).mono ?_
    rintro e u' w'' ⟨rfl, rfl, rfl⟩
    simp [Leaves, settle, results, Tryd.results133, go_sem, hc0, hc1, hc2, hz0, hz1, hz2]
    refine ⟨(((hB0.trans (hB.mono hs)).setCell (p := ⟨w.heap.size, 0, none⟩) (Nat.le_refl _) _).setCell (p := ⟨w.heap.size, 1, none⟩) (Nat.le_refl _) _).setCell (p := ⟨w.heap.size + 1, 0, none⟩) (Nat.le_succ _) _, g, by omega, rfl, ?_⟩
    exact ((hL.set ⟨w.heap.size, 0, none⟩ _ (by show w.heap.size ≠ g; omega)).set ⟨w.heap.size, 1, none⟩ _ (by show w.heap.size ≠ g; omega)).set ⟨w.heap.size + 1, 0, none⟩ _ (by show w.heap.size + 1 ≠ g; omega)
  | some iW =>
    obtain ⟨i, W⟩ := iW
    go_enter_defers Tryd.func133, Tryd.ntmps133
    go_wp2_with (go_at_fn K; refine hw.mono ?_; rintro e w' ⟨g, hg, he, hL, hB⟩; obtain ⟨v, rfl, hown⟩ := he; obtain ⟨⟨hc0, hc1, hc2⟩, hz0, hz1, hz2⟩ := fd_cells hB)
    refine leaves_cons (f := 179) (args := #[.pointer (some ⟨w.heap.size, 0, none⟩), .pointer (some ⟨w.heap.size + 1, 0, none⟩)]) (by simp) (by simp [go_sem]) ?_
    refine (catch_F_hit w.heap.size _ _ _ (i : Int) v [] _ hown.shape hc0 hc1 hc2 hz0 hz1 hz2).mono ?_
    rintro e u' w'' ⟨rfl, rfl, rfl⟩
    simp [Leaves, settle, results, Tryd.results133, go_sem, hc0, hc1, hc2, hz0, hz1, hz2]
    refine ⟨(((hB0.trans (hB.mono hs)).setCell (p := ⟨w.heap.size, 0, none⟩) (Nat.le_refl _) _).setCell (p := ⟨w.heap.size, 1, none⟩) (Nat.le_refl _) _).setCell (p := ⟨w.heap.size + 1, 0, none⟩) (Nat.le_succ _) _, g, by omega, ⟨v, rfl, ((((hown.set ⟨w.heap.size, 0, none⟩ _ (by rw [hs2]; show w.heap.size < _; omega)).set ⟨w.heap.size, 1, none⟩ _ (by rw [hs2]; show w.heap.size < _; omega)).set ⟨w.heap.size + 1, 0, none⟩ _ (by rw [hs2]; show w.heap.size + 1 < _; omega))).base hs⟩, ?_⟩
    exact ((hL.set ⟨w.heap.size, 0, none⟩ _ (by show w.heap.size ≠ g; omega)).set ⟨w.heap.size, 1, none⟩ _ (by show w.heap.size ≠ g; omega)).set ⟨w.heap.size + 1, 0, none⟩ _ (by show w.heap.size + 1 ≠ g; omega)

set_option maxRecDepth 100000 in
set_option maxHeartbeats 4000000 in
theorem whole_body (p x : ByteArray) (hp : IsP p) (hx : IsW x) (bp bx : Nat) (w : World) (cp : w.cell? ⟨bp, 0, none⟩ = some (.string p)) (cx : w.cell? ⟨bx, 0, none⟩ = some (.string x)) :
    Calls Tryd.prog 142 #[.pointer (some ⟨bp, 0, none⟩), .pointer (some ⟨bx, 0, none⟩)] w (FoundBy p x ((fitL (bl x) (bl p) x.size).map fun W => (0, W)) w) := by
  have hmo : Tryd.prog.follows .mixedOrders = true := by kernel_rfl
  have hx60 := hx.size
  have hbp := World.block_lt_of_cell? w _ cp
  have hbx := World.block_lt_of_cell? w _ cx
  simp only at hbp hbx
  have CS := Lib.hid (fun W => searchFor_any p x hp hx60 W)
  clear hx
  go_enter Tryd.func142, Tryd.ntmps142
  refine wp_region_held_drew (S := fun W => W.cell? ⟨bp, 0, none⟩ = some (.string p) ∧ W.cell? ⟨bx, 0, none⟩ = some (.string x)) (by kernel_rfl) ⟨cp, cx⟩ (fun hH => ?_)
  refine wpAnyH_take (i := 0) (v := ?_) rfl (by kernel_rfl) (by kernel_rfl) (by kernel_rfl) (fun _ _ _ h => h) (Or.inl ⟨by rfl, ?_⟩) hH ?_
  rotate_left 1
  · intro w hSw; have k0 := hSw.1; have k1 := hSw.2; go_simp <;> with_reducible rfl
  try simp only [List.getElem_toArray, List.getElem_cons_succ, List.getElem_cons_zero, Act.put, List.setIfInBounds_toArray, List.set_cons_zero, List.set_cons_succ]
  refine wpAnyH_take (i := 1) (v := ?_) rfl (by kernel_rfl) (by kernel_rfl) (by kernel_rfl) (fun _ _ _ h => h) (Or.inl ⟨by rfl, ?_⟩) hH ?_
  rotate_left 1
  · intro w hSw; have k0 := hSw.1; have k1 := hSw.2; go_simp <;> with_reducible rfl
  try simp only [List.getElem_toArray, List.getElem_cons_succ, List.getElem_cons_zero, Act.put, List.setIfInBounds_toArray, List.set_cons_zero, List.set_cons_succ]
  refine wpAnyH_take (i := 3) (v := ?_) rfl (by kernel_rfl) (by kernel_rfl) (by kernel_rfl) (fun _ _ _ h => h) (Or.inl ⟨by rfl, ?_⟩) hH ?_
  rotate_left 1
  · intro w hSw; have k0 := hSw.1; have k1 := hSw.2; go_simp <;> with_reducible rfl
  try simp only [List.getElem_toArray, List.getElem_cons_succ, List.getElem_cons_zero, Act.put, List.setIfInBounds_toArray, List.set_cons_zero, List.set_cons_succ]
  refine wpAnyH_take (i := 4) (v := ?_) rfl (by kernel_rfl) (by kernel_rfl) (by kernel_rfl) (fun _ _ _ h => h) (Or.inl ⟨by rfl, ?_⟩) hH ?_
  rotate_left 1
  · intro w hSw; have k0 := hSw.1; have k1 := hSw.2; go_simp <;> with_reducible rfl
  try simp only [List.getElem_toArray, List.getElem_cons_succ, List.getElem_cons_zero, Act.put, List.setIfInBounds_toArray, List.set_cons_zero, List.set_cons_succ]
  have hbd : Below w.heap.size w w.drew := (Below.refl _ _).drew
  refine wpAnyH_ready (rs := [2]) (by kernel_rfl) (by simp) ?_
  refine AllReadyH.cons rfl (fun K hK => ?_) AllReadyH.nil
  go_simp
  (with_reducible refine (CS.out _).mono ?_)
  rintro e w1 ⟨g, c, rfl, hL, hc, hg, b1⟩
  have b1' : Below w.heap.size w w1 := hbd.then b1
  have hg' : w.heap.size ≤ g := hg
  have hH1 : w1.cell? ⟨bp, 0, none⟩ = some (.string p) ∧ w1.cell? ⟨bx, 0, none⟩ = some (.string x) := ⟨by rw [(bcell b1').1 bp 0 hbp]; exact cp, by rw [(bcell b1').1 bx 0 hbx]; exact cx⟩
  have HH1 := Lib.hid hH1
  clear hH1
  go_wp2_with fail
  refine hK.out _ _ HH1.out (fun _ => ?_)
  clear hK K
  try simp only [List.getElem_toArray, List.getElem_cons_succ, List.getElem_cons_zero, Act.put, List.setIfInBounds_toArray, List.set_cons_zero, List.set_cons_succ]
  have CF := tryFactor_any p hp g c (bl x) 0 x.size hx60 hc (by rw [bl_len]; omega) w1 hL
  rw [List.drop_zero] at CF
  simp only [Int.natCast_zero, Int.zero_add] at CF
  have HCF := Lib.hid CF
  clear CF
  refine wpAnyH_ready (rs := [5]) (by kernel_rfl) (by simp) ?_
  refine AllReadyH.cons rfl (fun K hK => ?_) AllReadyH.nil
  go_simp
  refine HCF.out.mono ?_
  rintro e w2 ⟨hfe, b2⟩
  have hfe2 := hfe.e
  have hL2 := hL.past b2
  have bt := b1'.then b2
  cases hgv : fitL (bl x) (bl p) x.size with
  | none =>
    rw [hgv] at hfe hfe2
    obtain rfl : e = .returned (.tuple #[]) := hfe
    have HGV := Lib.hid hgv
    clear hgv
    go_wp2_with fail
    refine hK.out _ _ ⟨by rw [(bcell bt).1 bp 0 hbp]; exact cp, by rw [(bcell bt).1 bx 0 hbx]; exact cx⟩ (fun _ => ?_)
    clear hK K
    refine wpAnyH_done (by kernel_rfl) ?_ _
    go_wp2_with fail
    go_end0
    exact ⟨g, hg', by rw [HGV.out]; rfl, hL2, bt⟩
  | some W =>
    rw [hgv] at hfe hfe2
    obtain ⟨v1, rfl, hown3⟩ := hfe
    have HGV := Lib.hid hgv
    clear hgv
    go_wp2_with fail
    exact ⟨rfl, g, hg', FitE.base hfe2 b1'.size, hL2, bt⟩

/-- The fits that end with the word, the first one. -/
def pends (X P : List UInt8) : Option (Nat × (Nat → List UInt8)) := (List.range X.length).findSome? fun i => (fitL (X.drop i) P (X.length - i)).map fun W => (i, W)
theorem pends_isSome (X P : List UInt8) : (pends X P).isSome = pendB X P := by
  rw [Bool.eq_iff_iff]
  unfold pends pendB pendTo
  rw [List.any_eq_true]
  constructor
  · intro h
    obtain ⟨y, hy⟩ := Option.isSome_iff_exists.1 h
    obtain ⟨i, hi, h1, _⟩ := rseek_some hy
    refine ⟨i, List.mem_range.2 hi, ?_⟩
    unfold fitsB
    rw [List.length_drop]
    rw [Option.map_eq_some_iff] at h1
    obtain ⟨W, hW, _⟩ := h1
    rw [hW]; rfl
  · rintro ⟨i, hi, h⟩
    rw [List.mem_range] at hi
    unfold fitsB at h
    rw [List.length_drop] at h
    cases e : (List.range X.length).findSome? (fun i => (fitL (X.drop i) P (X.length - i)).map fun W => (i, W)) with
    | some y => rfl
    | none =>
      rw [List.findSome?_eq_none_iff] at e
      have := e i (List.mem_range.2 hi)
      rw [Option.map_eq_none_iff] at this
      rw [this] at h; cases h

theorem enter_of (K : Nat) (h : ∀ args W, (callFunc K args).run Tryd.prog W = .ok (.enter K args) W) : ∀ args W, (callFunc K args).run Tryd.prog W = .ok (.enter K args) W := h

end Go.Proofs.YtfipbnognjepkaaDoor
