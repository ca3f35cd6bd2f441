/- The searches: the first fit, the whole word, the end of a word. -/
import Derived.Test.YtfipbnognjepkaaDoorFitD
namespace Go.Proofs.YtfipbnognjepkaaDoor
set_option linter.unusedVariables false
set_option linter.unusedSimpArgs false
open Go.RowKit

theorem pffAt_fst (X P : List UInt8) (i : Nat) : ((pffAt X P i).map (·.2)).map (fun W => (i, W)) = pffAt X P i := by
  cases e : pffAt X P i with
  | none => rfl
  | some y =>
    unfold pffAt at e
    obtain ⟨k, _, h, _⟩ := rseek_some e
    rw [Option.map_eq_some_iff] at h
    obtain ⟨W, _, rfl⟩ := h
    rfl

def FoundBy (p x : ByteArray) (r : Option (Nat × (Nat → List UInt8))) (w : World) (e : Ending) (w' : World) : Prop := ∃ g, w.heap.size ≤ g ∧ FitE g (bl x) (vsOf (bl p)) w.heap.size r e w' ∧ LettersAt w' g (bl x) ∧ Below w.heap.size w w'
abbrev FoundIn (p x : ByteArray) (w : World) (e : Ending) (w' : World) : Prop := FoundBy p x (pff (bl x) (bl p)) w e w'

set_option maxRecDepth 100000 in
set_option maxHeartbeats 4000000 in
/-- The search for the first fit. -/
theorem first_body (p x : ByteArray) (hp : IsP p) (hx : IsW x) (bp bx : Nat) (w : World) (cp : w.cell? ⟨bp, 0, none⟩ = some (.string p)) (cx : w.cell? ⟨bx, 0, none⟩ = some (.string x)) :
    Calls Tryd.prog 134 #[.pointer (some ⟨bp, 0, none⟩), .pointer (some ⟨bx, 0, none⟩)] w fun e w' => FoundIn p x w e w' := by
  have hx60 := hx.size
  have hbp := World.block_lt_of_cell? w _ cp
  have hbx := World.block_lt_of_cell? w _ cx
  simp only at hbp hbx
  have CS := Lib.hid (fun W => searchFor_any p x hp hx60 W)
  have HW := Lib.hid hx
  clear hx
  go_enter Tryd.func134, Tryd.ntmps134
  go_wp2_with (go_at_call 135; (with_reducible refine (CS.out _).mono ?_); rintro e w1 ⟨g, c, rfl, hL, hc, hg, b1⟩; have cp1 : w1.cell? ⟨bp, 0, none⟩ = some (.string p) := (by rw [(bcell b1).1 bp 0 hbp]; exact cp); have cx1 : w1.cell? ⟨bx, 0, none⟩ = some (.string x) := (by rw [(bcell b1).1 bx 0 hbx]; exact cx); have hbx1 : bx < w1.heap.size := Nat.lt_of_lt_of_le hbx b1.size)
  have hs1 := b1.size
  have CP := Lib.hid (fun (W : World) (k : Nat) (hk : k ≤ x.size) (hB : Below w1.heap.size w1 W) => tryPlace_any p hp g c (bl x) k hx60 hc hk W (hL.past hB))
  have HL := Lib.hid hL
  clear hL
  go_loopw [] (fun wr => ∃ k : Nat, k ≤ x.size ∧ wr.heap[w1.heap.size + 1]? = some (.stringIter x k) ∧ NoneAt (pffAt (bl x) (bl p)) k ∧ Below w1.heap.size w1 wr ∧ BoxS wr w1.heap.size p (vsT (bl p)) (.slice (some ⟨g, 0, none⟩) x.size c) ∧ w1.heap.size + 1 < wr.heap.size)
    (fun wr => x.size - wr.iterPos (w1.heap.size + 1))
  case atStart =>
    refine ⟨0, Nat.zero_le _, ?_, fun j hj => by omega, ?_, ?_, ?_⟩
    · have := World.iter_heap (w1.alloc (.cells #[.string p, .string (vsT (bl p)), .slice (some ⟨g, 0, none⟩) x.size c] 142)) x 0
      simpa using this
    · exact (Below.new w1 _).alloc (by simp) _
    · exact (BoxS.new w1 _ _ _).past ((Below.refl (w1.heap.size + 1) _).alloc (by simp) _) (by omega)
    · simp [World.iter]
  case round =>
    obtain ⟨k, hk, hit, hno, hB, hbx, hsz⟩ := hrel
    by_cases hp' : k < x.size
    · have hlo := HW.out.hi k hp'
      have hnx : ∀ ty, (Instr.next (.pointer (some ⟨w1.heap.size + 1, 0, none⟩)) true ty).run Tryd.prog wr = _ := fun ty => Lib.run_next_ascii_at wr (w1.heap.size + 1) x k ty hit hp' (by omega)
      obtain ⟨wi, hwi⟩ : ∃ wi, wr.iterAt (w1.heap.size + 1) x (k + 1) = wi := ⟨_, rfl⟩
      have hit2 := Lib.iterAt_heap wr (w1.heap.size + 1) x k (k + 1) hit
      have hB2 := Lib.below_iterAt hB (show w1.heap.size ≤ w1.heap.size + 1 by omega) x (k + 1)
      have hBi := Lib.below_iterAt (Below.refl (w1.heap.size + 1) wr) (Nat.le_refl _) x (k + 1)
      have hbx2 := hbx.past hBi (by omega)
      have hsz2 : w1.heap.size + 1 < (wr.iterAt (w1.heap.size + 1) x (k + 1)).heap.size := by rw [Lib.iterAt_size]; exact hsz
      rw [hwi] at hit2 hB2 hbx2 hsz2 hnx
      have x0 := hbx2.c0
      have x1 := hbx2.c1
      have x2 := hbx2.c2
      have HCF := Lib.hid (CP.out wi k (by omega) hB2)
      have HIT := Lib.hid hit
      have HIT2 := Lib.hid hit2
      have HNO := Lib.hid hno
      have HBX := Lib.hid hbx2
      have hfst := pffAt_fst (bl x) (bl p) k
      have HFST := Lib.hid hfst
      clear hit hit2 hno hbx hbx2 hBi hwi hfst
      cases hgv : pffAt (bl x) (bl p) k with
      | none =>
        rw [hgv] at HCF
        have HGV := Lib.hid hgv
        clear hgv
        go_wp2_with (go_at_call 136; refine HCF.out.mono ?_; rintro e w2 ⟨he, b2⟩; obtain rfl : e = .returned (.tuple #[]) := he)
        have hit3 : w2.heap[w1.heap.size + 1]? = some (.stringIter x (k + 1)) := (b2.block _ hsz2).trans HIT2.out
        have HIT3 := Lib.hid hit3
        clear hit3
        go_roundw
        case rel => exact ⟨k + 1, by omega, HIT3.out, fun j hj => by
          by_cases e : j < k
          · exact HNO.out j e
          · rw [show j = k by omega]; exact HGV.out, hB2.then b2, HBX.out.past b2 (by omega), Nat.lt_of_lt_of_le hsz2 b2.size⟩
        case measure => simp only [World.iterPos, HIT3.out, HIT.out]; omega
      | some iW =>
        have h1 := HFST.out
        rw [hgv] at HCF h1
        have HGV := Lib.hid hgv
        have HF1 := Lib.hid h1
        have hb2z := hB2.size
        clear hgv h1
        obtain ⟨i, W⟩ := iW
        go_wp2_with (go_at_call 136; refine HCF.out.mono ?_; rintro e w2 ⟨he, b2⟩; obtain ⟨v1, rfl, hown⟩ := he)
        refine ⟨rfl, g, hg, ?_, HL.out.past (hB2.then b2), (b1.trans (hB2.mono hs1)).then b2⟩
        have e1 : pff (bl x) (bl p) = some (i, W) := by
          unfold pff
          exact rseek_at HNO.out (by rw [bl_len]; exact hp') HGV.out
        have e2 : k = i := by have := HF1.out; simp at this; exact this
        rw [e1, ← e2]
        exact FitE.base (r := some (k, W)) ⟨v1, rfl, hown⟩ (by omega)
    · have hke : k = x.size := by omega
      subst hke
      have hnx : ∀ ty, (Instr.next (.pointer (some ⟨w1.heap.size + 1, 0, none⟩)) true ty).run Tryd.prog wr = _ := fun ty => Lib.run_next_end_at wr (w1.heap.size + 1) x x.size ty hit hp'
      have e1 : pff (bl x) (bl p) = none := by
        unfold pff
        exact rseek_none (fun m hm => hno m (by rw [bl_len] at hm; exact hm))
      have HE := Lib.hid e1
      clear e1 hno hit
      go_wp2_with fail
      go_end0
      exact ⟨g, hg, by rw [HE.out]; rfl, HL.out.past hB, b1.trans (hB.mono hs1)⟩

end Go.Proofs.YtfipbnognjepkaaDoor
