/- The searches: a whole word, the end of a word; what their doors hand back. -/
import Derived.Test.YtfipbnognjepkaaGreatDoorFitB
namespace Go.Proofs.YtfipbnognjepkaaGreatDoor
set_option linter.unusedVariables false
set_option linter.unusedSimpArgs false
open Go.RowKit

/-- What a search hands back. -/
def FoundRet (p x : ByteArray) (r : Option (Nat × (Nat → List UInt8))) (w : World) (e : Ending) (w' : World) : Prop := Below w.heap.size w w' ∧ ∃ g, w.heap.size ≤ g ∧ FitRet g (bl x) (vsOf (bl p)) w.heap.size r e w' ∧ LettersAt w' g (bl x)
theorem LettersAt.set {w : World} {g : Nat} {X : List UInt8} (h : LettersAt w g X) (a : Addr) (u : Value) (ha : a.block ≠ g) : LettersAt (w.setCell a u) g X :=
  h.kept (b := a.block) (grown_setF w a u) (Ne.symm ha)

set_option maxRecDepth 100000 in
set_option maxHeartbeats 2000000 in
theorem fitFoundBy_any (K : Nat) (caps : Array Value) (w : World) (p x : ByteArray) (r : Option (Nat × (Nat → List UInt8))) (hent : ∀ args W, (callFunc K args).run Tryz.prog W = .ok (.enter K args) W)
    (hw : Calls Tryz.prog K caps (fdW w) (FoundBy p x r (fdW w))) :
    Calls Tryz.prog 126 #[.func (.func K) #[] caps] w (FoundRet p x r w) := by
  have hmf : ∀ (fn : Fn) (first cap : Array Value) (w : World), (Instr.makeFunc fn first cap).run Tryz.prog w = .ok (.func fn first cap) w := fun _ _ _ _ => rfl
  have hB0 : Below w.heap.size w (fdW w) := (Below.new _ _).alloc (by simp) _
  have hs : w.heap.size ≤ (fdW w).heap.size := hB0.size
  have hs2 : (fdW w).heap.size = w.heap.size + 2 := by simp [fdW]
  cases r with
  | none =>
    go_enter_defers Tryz.func126, Tryz.ntmps126
    go_wp2_with (go_at_fn K; refine hw.mono ?_; rintro e w' ⟨g, hg, he, hL, hB⟩; obtain rfl : e = .returned (.tuple #[]) := he; obtain ⟨⟨hc0, hc1, hc2⟩, hz0, hz1, hz2⟩ := fd_cells hB)
    refine leaves_cons (f := 159) (args := #[.pointer (some ⟨w.heap.size, 0, none⟩), .pointer (some ⟨w.heap.size + 1, 0, none⟩)]) (by simp) (by simp [go_sem]) ?_
    refine (catch_F_idle ⟨w.heap.size, 0, none⟩ ⟨w.heap.size + 1, 0, none⟩ _).mono ?_
    rintro e u' w'' ⟨rfl, rfl, rfl⟩
    simp [Leaves, settle, results, Tryz.results126, go_sem, hc0, hc1, hc2, hz0, hz1, hz2]
    refine ⟨(((hB0.trans (hB.mono hs)).setCell (p := ⟨w.heap.size, 0, none⟩) (Nat.le_refl _) _).setCell (p := ⟨w.heap.size, 1, none⟩) (Nat.le_refl _) _).setCell (p := ⟨w.heap.size + 1, 0, none⟩) (Nat.le_succ _) _, g, by omega, rfl, ?_⟩
    exact ((hL.set ⟨w.heap.size, 0, none⟩ _ (by show w.heap.size ≠ g; omega)).set ⟨w.heap.size, 1, none⟩ _ (by show w.heap.size ≠ g; omega)).set ⟨w.heap.size + 1, 0, none⟩ _ (by show w.heap.size + 1 ≠ g; omega)
  | some iW =>
    obtain ⟨i, W⟩ := iW
    go_enter_defers Tryz.func126, Tryz.ntmps126
    go_wp2_with (go_at_fn K; refine hw.mono ?_; rintro e w' ⟨g, hg, he, hL, hB⟩; obtain ⟨v, rfl, hown⟩ := he; obtain ⟨⟨hc0, hc1, hc2⟩, hz0, hz1, hz2⟩ := fd_cells hB)
    refine leaves_cons (f := 159) (args := #[.pointer (some ⟨w.heap.size, 0, none⟩), .pointer (some ⟨w.heap.size + 1, 0, none⟩)]) (by simp) (by simp [go_sem]) ?_
    refine (catch_F_hit w.heap.size _ _ _ (i : Int) v [] _ hown.shape hc0 hc1 hc2 hz0 hz1 hz2).mono ?_
    rintro e u' w'' ⟨rfl, rfl, rfl⟩
    simp [Leaves, settle, results, Tryz.results126, go_sem, hc0, hc1, hc2, hz0, hz1, hz2]
    refine ⟨(((hB0.trans (hB.mono hs)).setCell (p := ⟨w.heap.size, 0, none⟩) (Nat.le_refl _) _).setCell (p := ⟨w.heap.size, 1, none⟩) (Nat.le_refl _) _).setCell (p := ⟨w.heap.size + 1, 0, none⟩) (Nat.le_succ _) _, g, by omega, ⟨v, rfl, ((((hown.set ⟨w.heap.size, 0, none⟩ _ (by rw [hs2]; show w.heap.size < _; omega)).set ⟨w.heap.size, 1, none⟩ _ (by rw [hs2]; show w.heap.size < _; omega)).set ⟨w.heap.size + 1, 0, none⟩ _ (by rw [hs2]; show w.heap.size + 1 < _; omega))).base hs⟩, ?_⟩
    exact ((hL.set ⟨w.heap.size, 0, none⟩ _ (by show w.heap.size ≠ g; omega)).set ⟨w.heap.size, 1, none⟩ _ (by show w.heap.size ≠ g; omega)).set ⟨w.heap.size + 1, 0, none⟩ _ (by show w.heap.size + 1 ≠ g; omega)

/-- The fits that end with the word, the first one. -/
def pends (X P : List UInt8) : Option (Nat × (Nat → List UInt8)) := (List.range X.length).findSome? fun i => (fitL (X.drop i) P (X.length - i)).map fun W => (i, W)
theorem pends_isSome (X P : List UInt8) : (pends X P).isSome = pendB X P := by
  rw [Bool.eq_iff_iff]
  unfold pends pendB pendTo
  rw [List.any_eq_true]
  constructor
  · intro h
    obtain ⟨y, hy⟩ := Option.isSome_iff_exists.1 h
    obtain ⟨i, hi, h1, _⟩ := rseek_some hy
    refine ⟨i, List.mem_range.2 hi, ?_⟩
    unfold fitsB
    rw [List.length_drop]
    rw [Option.map_eq_some_iff] at h1
    obtain ⟨W, hW, _⟩ := h1
    rw [hW]; rfl
  · rintro ⟨i, hi, h⟩
    rw [List.mem_range] at hi
    unfold fitsB at h
    rw [List.length_drop] at h
    cases e : (List.range X.length).findSome? (fun i => (fitL (X.drop i) P (X.length - i)).map fun W => (i, W)) with
    | some y => rfl
    | none =>
      rw [List.findSome?_eq_none_iff] at e
      have := e i (List.mem_range.2 hi)
      rw [Option.map_eq_none_iff] at this
      rw [this] at h; cases h

set_option maxRecDepth 100000 in
set_option maxHeartbeats 4000000 in
/-- The search at the end. -/
theorem ends_body (p x : ByteArray) (hp : IsP p) (hx : IsW x) (bp bx : Nat) (w : World) (cp : w.cell? ⟨bp, 0, none⟩ = some (.string p)) (cx : w.cell? ⟨bx, 0, none⟩ = some (.string x)) :
    Calls Tryz.prog 177 #[.pointer (some ⟨bp, 0, none⟩), .pointer (some ⟨bx, 0, none⟩)] w (FoundBy p x (pends (bl x) (bl p)) w) := by
  have hx60 := hx.size
  have hbp := World.block_lt_of_cell? w _ cp
  have hbx := World.block_lt_of_cell? w _ cx
  simp only at hbp hbx
  have CS := Lib.hid (fun W => searchFor_any p x hp hx60 W)
  have HW := Lib.hid hx
  clear hx
  go_enter Tryz.func177, Tryz.ntmps177
  go_wp2_with (go_at_call 128; (with_reducible refine (CS.out _).mono ?_); rintro e w1 ⟨g, c, rfl, hL, hc, hg, b1⟩; have cp1 : w1.cell? ⟨bp, 0, none⟩ = some (.string p) := (by rw [(bcell b1).1 bp 0 hbp]; exact cp); have cx1 : w1.cell? ⟨bx, 0, none⟩ = some (.string x) := (by rw [(bcell b1).1 bx 0 hbx]; exact cx); have hbx1 : bx < w1.heap.size := Nat.lt_of_lt_of_le hbx b1.size)
  have hs1 := b1.size
  have CP := Lib.hid (fun (W : World) (k : Nat) (hk : k ≤ x.size) (hB : Below w1.heap.size w1 W) => by
    have h := tryFactor_any p hp g c (bl x) k (x.size - k) hx60 hc (by rw [bl_len]; omega) W (hL.past hB)
    have e : (k : Int) + ((x.size - k : Nat) : Int) = (x.size : Int) := by omega
    rw [e] at h
    exact h)
  have HL := Lib.hid hL
  clear hL
  go_loopw [] (fun wr => ∃ k : Nat, k ≤ x.size ∧ wr.heap[w1.heap.size + 1]? = some (.stringIter x k) ∧ NoneAt (fun i => (fitL ((bl x).drop i) (bl p) ((bl x).length - i)).map fun W => (i, W)) k ∧ Below w1.heap.size w1 wr ∧ BoxS wr w1.heap.size p (vsT (bl p)) (.slice (some ⟨g, 0, none⟩) x.size c) ∧ w1.heap.size + 1 < wr.heap.size)
    (fun wr => x.size - wr.iterPos (w1.heap.size + 1))
  case atStart =>
    refine ⟨0, Nat.zero_le _, ?_, fun j hj => by omega, ?_, ?_, ?_⟩
    · have := World.iter_heap (w1.alloc (.cells #[.string p, .string (vsT (bl p)), .slice (some ⟨g, 0, none⟩) x.size c] 131)) x 0
      simpa using this
    · exact (Below.new w1 _).alloc (by simp) _
    · exact (BoxS.new w1 _ _ _).past ((Below.refl (w1.heap.size + 1) _).alloc (by simp) _) (by omega)
    · simp [World.iter]
  case round =>
    obtain ⟨k, hk, hit, hno, hB, hbx, hsz⟩ := hrel
    by_cases hp' : k < x.size
    · have hlo := HW.out.hi k hp'
      have hnx : ∀ ty, (Instr.next (.pointer (some ⟨w1.heap.size + 1, 0, none⟩)) true ty).run Tryz.prog wr = _ := fun ty => Lib.run_next_ascii_at wr (w1.heap.size + 1) x k ty hit hp' (by omega)
      obtain ⟨wi, hwi⟩ : ∃ wi, wr.iterAt (w1.heap.size + 1) x (k + 1) = wi := ⟨_, rfl⟩
      have hit2 := Lib.iterAt_heap wr (w1.heap.size + 1) x k (k + 1) hit
      have hB2 := Lib.below_iterAt hB (show w1.heap.size ≤ w1.heap.size + 1 by omega) x (k + 1)
      have hBi := Lib.below_iterAt (Below.refl (w1.heap.size + 1) wr) (Nat.le_refl _) x (k + 1)
      have hbx2 := hbx.past hBi (by omega)
      have hsz2 : w1.heap.size + 1 < (wr.iterAt (w1.heap.size + 1) x (k + 1)).heap.size := by rw [Lib.iterAt_size]; exact hsz
      rw [hwi] at hit2 hB2 hbx2 hsz2 hnx
      have x0 := hbx2.c0
      have x1 := hbx2.c1
      have x2 := hbx2.c2
      have HCF := Lib.hid (CP.out wi k (by omega) hB2)
      have HIT := Lib.hid hit
      have HIT2 := Lib.hid hit2
      have HNO := Lib.hid hno
      have HBX := Lib.hid hbx2
      clear hit hit2 hno hbx hbx2 hBi hwi
      have hcx : wi.cell? ⟨bx, 0, none⟩ = some (.string x) := by rw [(bcell hB2).1 bx 0 hbx1]; exact cx1
      cases hgv : fitL ((bl x).drop k) (bl p) (x.size - k) with
      | none =>
        rw [hgv] at HCF
        have HGV := Lib.hid hgv
        clear hgv
        go_wp2_with (go_at_call 160; refine HCF.out.mono ?_; rintro e w2 ⟨he, b2⟩; obtain rfl : e = .returned (.tuple #[]) := he)
        have hit3 : w2.heap[w1.heap.size + 1]? = some (.stringIter x (k + 1)) := (b2.block _ hsz2).trans HIT2.out
        have HIT3 := Lib.hid hit3
        clear hit3
        go_roundw
        case rel => exact ⟨k + 1, by omega, HIT3.out, fun j hj => by
          by_cases e : j < k
          · exact HNO.out j e
          · rw [show j = k by omega]; show Option.map _ (fitL ((bl x).drop k) (bl p) (x.size - k)) = none; rw [HGV.out]; rfl, hB2.then b2, HBX.out.past b2 (by omega), Nat.lt_of_lt_of_le hsz2 b2.size⟩
        case measure => simp only [World.iterPos, HIT3.out, HIT.out]; omega
      | some W =>
        rw [hgv] at HCF
        have HGV := Lib.hid hgv
        have hb2z := hB2.size
        clear hgv
        go_wp2_with (go_at_call 160; refine HCF.out.mono ?_; rintro e w2 ⟨he, b2⟩; obtain ⟨v1, rfl, hown⟩ := he)
        refine ⟨rfl, g, hg, ?_, HL.out.past (hB2.then b2), (b1.trans (hB2.mono hs1)).then b2⟩
        have e1 : pends (bl x) (bl p) = some (k, W) := by
          unfold pends
          exact rseek_at HNO.out (by rw [bl_len]; exact hp') (by show Option.map _ (fitL ((bl x).drop k) (bl p) (x.size - k)) = _; rw [HGV.out]; rfl)
        rw [e1]
        exact FitE.base (r := some (k, W)) ⟨v1, rfl, hown⟩ (by omega)
    · have hke : k = x.size := by omega
      subst hke
      have hnx : ∀ ty, (Instr.next (.pointer (some ⟨w1.heap.size + 1, 0, none⟩)) true ty).run Tryz.prog wr = _ := fun ty => Lib.run_next_end_at wr (w1.heap.size + 1) x x.size ty hit hp'
      have e1 : pends (bl x) (bl p) = none := by
        unfold pends
        exact rseek_none (fun m hm => hno m (by rw [bl_len] at hm; exact hm))
      have HE := Lib.hid e1
      clear e1 hno hit
      go_wp2_with fail
      go_end0
      exact ⟨g, hg, by rw [HE.out]; rfl, HL.out.past hB, b1.trans (hB.mono hs1)⟩


theorem enter_of (K : Nat) (h : ∀ args W, (callFunc K args).run Tryz.prog W = .ok (.enter K args) W) : ∀ args W, (callFunc K args).run Tryz.prog W = .ok (.enter K args) W := h

end Go.Proofs.YtfipbnognjepkaaGreatDoor
