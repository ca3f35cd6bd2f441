/- The search: its variables, its letters; the factor at a place; all factors at a place. -/
import Derived.Test.YtfipbnognjepkaaDoorTryL
import Derived.Lib.ConvBytes
namespace Go.Proofs.YtfipbnognjepkaaDoor
set_option linter.unusedVariables false
set_option linter.unusedSimpArgs false
open Go.RowKit

theorem index_mem (l : List UInt8) (c : UInt8) : decide (0 ≤ Lib.indexByte l c) = l.any (fun d => d == c) := by
  induction l with
  | nil => rfl
  | cons b l ih =>
    rw [Lib.indexByte, List.any_cons]
    have hge := Lib.indexByte_ge l c
    by_cases e : b == c
    · rw [if_pos e, e]; rfl
    · rw [if_neg e]
      have e' : (b == c) = false := by simpa using e
      rw [e', Bool.false_or, ← ih]
      by_cases q : Lib.indexByte l c = -1
      · rw [q]; rfl
      · have q' : (Lib.indexByte l c == -1) = false := by rw [beq_eq_false_iff_ne]; exact q
        rw [q']
        simp only [Bool.false_eq_true, if_false]
        rw [decide_eq_decide]; omega
theorem any_vs {v : Nat} (hv : v ≤ 2) {P : List UInt8} (hP : IsPL P) : P.any (fun d => d == vsE v) = decide (0 < cntV P v) := by
  rw [Bool.eq_iff_iff, decide_eq_true_eq, cntV_pos, List.any_eq_true]
  constructor
  · rintro ⟨c, hc, e⟩
    exact ⟨c, hc, ((vsE_iff hv (hP c hc)).1 (beq_iff_eq.1 e).symm).symm⟩
  · rintro ⟨c, hc, e⟩
    exact ⟨c, hc, beq_iff_eq.2 ((vsE_iff hv (hP c hc)).2 e.symm).symm⟩
def vsTo (P : List UInt8) (k : Nat) : List UInt8 := (([0, 1, 2].take k).filter fun v => decide (0 < cntV P v)).map vsE
theorem vsTo_succ {P : List UInt8} {k : Nat} (hk : k < 3) : vsTo P (k + 1) = vsTo P k ++ (if 0 < cntV P k then [vsE k] else []) := by
  have hk3 : k = 0 ∨ k = 1 ∨ k = 2 := by omega
  unfold vsTo
  rcases hk3 with rfl | rfl | rfl <;> (simp only [List.take_succ_cons, List.take_zero, List.filter_cons, List.filter_nil]; repeat' split) <;> simp_all
theorem vsTo_all (P : List UInt8) : vsTo P 3 = vsB P := rfl
theorem vsTo_len (P : List UInt8) (k : Nat) : (vsTo P k).length ≤ 3 := by
  unfold vsTo
  rw [List.length_map]
  have h1 := List.length_filter_le (fun v => decide (0 < cntV P v)) ([0, 1, 2].take k)
  have h2 := List.length_take_le k [0, 1, 2]
  rw [List.length_take] at h1
  simp at h1
  omega
abbrev abc : ByteArray := ⟨#[65, 66, 67]⟩
theorem abc_get (k : Nat) (h : k < abc.size) : ((abc[k]'h).toNat : Int) = 65 + (k : Int) := by
  have hk : k = 0 ∨ k = 1 ∨ k = 2 := by have : abc.size = 3 := rfl; omega
  rcases hk with rfl | rfl | rfl <;> rfl

set_option maxRecDepth 100000 in
set_option maxHeartbeats 2000000 in
theorem variablesIn_any (p : ByteArray) (hp : IsP p) (w : World) :
    Calls Tryd.prog 180 #[.string p] w fun e w' => e = .returned (.string (vsT (bl p))) ∧ Below w.heap.size w w' := by
  have hP := hp.list
  have HP := Lib.hid hP
  have hfb : Lib.IsBuilderF 168 5 w.heap.size w.heap.size (Lib.byteCells []) (w.alloc (.cells #[.pointer none, .slice none 0 0] 168)) := Lib.IsBuilderF.of (Lib.fresh_isBuilder 168 5 w)
  have HB := Lib.hid hfb
  clear hfb hP
  go_enter Tryd.func180, Tryd.ntmps180
  go_wp2_with fail
  go_loopw [] (fun wr => ∃ k : Nat, k ≤ 3 ∧ wr.heap[w.heap.size + 1]? = some (.stringIter abc k) ∧ Lib.IsBuilderF 168 5 w.heap.size w.heap.size (Lib.byteCells (vsTo (bl p) k)) wr ∧ Below w.heap.size w wr ∧ w.heap.size + 1 < wr.heap.size)
    (fun wr => 3 - wr.iterPos (w.heap.size + 1))
  case atStart =>
    refine ⟨0, Nat.zero_le _, ?_, ?_, ?_, ?_⟩
    · have := World.iter_heap (w.alloc (.cells #[.pointer none, .slice none 0 0] 168)) abc 0
      simpa using this
    · exact Lib.IsBuilderF.alloc HB.out _
    · exact (Below.new w _).alloc (by simp) _
    · simp [World.iter]
  case round =>
    obtain ⟨k, hk, hit, hI, hB, hsz⟩ := hrel
    by_cases hp' : k < abc.size
    · have hk3 : k < 3 := hp'
      have hnx : ∀ ty, (Instr.next (.pointer (some ⟨w.heap.size + 1, 0, none⟩)) true ty).run Tryd.prog wr = _ := fun ty => Lib.run_next_ascii_at wr (w.heap.size + 1) abc k ty hit hp' (by have := abc_get k hp'; omega)
      rw [abc_get k hp'] at hnx
      have hc : ∀ W, Calls Tryd.prog 189 #[.string p, .int .i32 (65 + (k : Int))] W fun e w' => e = .returned (.bool (decide (0 < cntV (bl p) k))) ∧ W = w' := fun W => by
        refine (Tryd.strings_ContainsRune_ascii p (65 + (k : Int)) W (by omega) (by omega)).mono ?_
        rintro e w' ⟨rfl, rfl⟩
        refine ⟨?_, rfl⟩
        have e1 : (65 + (k : Int)).toNat.toUInt8 = vsE k := by rw [show (65 + (k : Int)).toNat = 65 + k by omega]; try rfl
        rw [e1, index_mem]
        have e2 := any_vs (v := k) (by omega) HP.out
        rw [← e2]
      have hrc : Lib.runeCells (65 + (k : Int)) = Lib.byteCells [vsE k] := by
        have hk' : k = 0 ∨ k = 1 ∨ k = 2 := by omega
        unfold Lib.runeCells Lib.byteCells
        rw [Lib.encodeRuneZ_one (by omega) (by omega)]
        rcases hk' with rfl | rfl | rfl <;> rfl
      have hsn := vsTo_succ (P := bl p) hk3
      obtain ⟨wi, hwi⟩ : ∃ wi, wr.iterAt (w.heap.size + 1) abc (k + 1) = wi := ⟨_, rfl⟩
      have hit2 := Lib.iterAt_heap wr (w.heap.size + 1) abc k (k + 1) hit
      have hB2 := Lib.below_iterAt hB (show w.heap.size ≤ w.heap.size + 1 by omega) abc (k + 1)
      have hI2 := Lib.IsBuilderF.iterAt hI hit (k + 1)
      have hsz2 : w.heap.size + 1 < (wr.iterAt (w.heap.size + 1) abc (k + 1)).heap.size := by rw [Lib.iterAt_size]; exact hsz
      rw [hwi] at hit2 hB2 hI2 hsz2 hnx
      have HC := Lib.hid hc
      have HRC := Lib.hid hrc
      have HSN := Lib.hid hsn
      have HIT := Lib.hid hit
      have HIT2 := Lib.hid hit2
      have HI2 := Lib.hid hI2
      have HLN := Lib.hid (vsTo_len (bl p) k)
      clear hc hrc hsn hit hit2 hI hI2 hwi
      have hz := hB2.size
      by_cases hv : 0 < cntV (bl p) k
      · have hvd : decide (0 < cntV (bl p) k) = true := by simpa using hv
        rw [hvd] at HC
        rw [if_pos hv] at HSN
        go_wp2_with (first | (go_at_call 189; (with_reducible refine (HC.out _).mono ?_); rintro e w1 ⟨rfl, rfl⟩) | (go_at_call 191; refine (Tryd.Builder_WriteRune_k w.heap.size w.heap.size _ (65 + (k : Int)) (by omega) (by omega) _ HI2.out (by rw [Lib.byteCells_length]; have := HLN.out; omega) hz).mono ?_; rintro e w2 ⟨rfl, hI3, b2, ok2⟩))
        rw [HRC.out, ← Lib.byteCells_append, ← HSN.out] at hI3
        have hit3 := ok2 _ _ HIT2.out (by intro e; have := Option.some.inj e; omega) (by intro c fz e; cases e)
        have HI3 := Lib.hid hI3
        have HIT3 := Lib.hid hit3
        clear hI3 hit3 ok2
        go_roundw
        case rel => exact ⟨k + 1, by omega, HIT3.out, .inr HI3.out, hB2.trans b2, Nat.lt_of_lt_of_le hsz2 b2.size⟩
        case measure => simp only [World.iterPos, HIT3.out, HIT.out]; omega
      · have hvd : decide (0 < cntV (bl p) k) = false := by simpa using hv
        rw [hvd] at HC
        rw [if_neg hv, List.append_nil] at HSN
        go_wp2_with (go_at_call 189; (with_reducible refine (HC.out _).mono ?_); rintro e w1 ⟨rfl, rfl⟩)
        go_roundw
        case rel => exact ⟨k + 1, by omega, HIT2.out, by rw [HSN.out]; exact HI2.out, hB2, hsz2⟩
        case measure => simp only [World.iterPos, HIT2.out, HIT.out]; omega
    · have hke : k = 3 := by have : abc.size = 3 := rfl; omega
      subst hke
      have hnx : ∀ ty, (Instr.next (.pointer (some ⟨w.heap.size + 1, 0, none⟩)) true ty).run Tryd.prog wr = _ := fun ty => Lib.run_next_end_at wr (w.heap.size + 1) abc 3 ty hit hp'
      rw [vsTo_all] at hI
      have HI := Lib.hid hI
      have hz := hB.size
      clear hI
      go_wp2_with (go_at_call 168; refine (Tryd.Builder_String_any_k w.heap.size w.heap.size (vsB (bl p)) _ HI.out hz).mono ?_; rintro e w2 ⟨rfl, _, b2, _⟩)
      go_ret
      exact ⟨rfl, hB.trans b2⟩

set_option maxRecDepth 100000 in
theorem conv_bytes (x : ByteArray) (W : World) : ∃ c w2, (convert 9 40 (.string x)).run Tryd.prog W = .ok (.slice (some ⟨W.heap.size, 0, none⟩) x.size c) w2 ∧ x.size ≤ c ∧ Below W.heap.size W w2 ∧ LettersAt w2 W.heap.size (bl x) ∧ w2.heap.size = W.heap.size + 1 := by
  have h1 := run_bytes_of_string (P := Tryd.prog) W 9 40 5 x Tryd.underlying9 Tryd.underlying40 Tryd.underlying5
  have h2 := Lib.run_convert_string_bytes (P := Tryd.prog) W 9 40 5 x Tryd.underlying9 Tryd.underlying40 Tryd.underlying5
  have h3 := h1.symm.trans h2
  simp only [Result.ok.injEq] at h3
  have hb := (Below.refl W.heap.size W).drew.alloc (Nat.le_refl _) (.cells (bytesRow x (grownCap W x.size 0 5)) 5 ((bytesRow x (grownCap W x.size 0 5)).size, (bytesRow x (grownCap W x.size 0 5)).size + 1))
  have hg := grownCap_ge W x.size 0 5
  generalize grownCap W x.size 0 5 = cc at *
  generalize w2e : World.alloc _ _ = W2 at h1 h3 hb
  refine ⟨cc, W2, h1, hg, hb, ⟨by rw [h3.2, Lib.bytesWorld_size]; omega, fun j hj => ?_⟩, by rw [h3.2, Lib.bytesWorld_size]⟩
  rw [h3.2, Lib.bytesWorld_cell W _ x j hj]
  congr 2
  rw [List.getD_eq_getElem?_getD, List.getElem?_eq_getElem (by exact hj)]
  rfl

set_option maxRecDepth 100000 in
set_option maxHeartbeats 2000000 in
theorem searchFor_any (p x : ByteArray) (hp : IsP p) (hx : x.size ≤ 60) (w : World) :
    Calls Tryd.prog 135 #[.string p, .string x] w fun e w' => ∃ g c, e = .returned (srchV p (vsT (bl p)) g x.size c) ∧ LettersAt w' g (bl x) ∧ x.size ≤ c ∧ w.heap.size ≤ g ∧ Below w.heap.size w w' := by
  have CV := Lib.hid (fun W => variablesIn_any p hp W)
  have hb0 := BoxS.new w ⟨#[]⟩ ⟨#[]⟩ (.slice none 0 0)
  have HB0 := Lib.hid hb0
  clear hb0
  go_enter Tryd.func135, Tryd.ntmps135
  go_wp2_with (go_at_call 180; (with_reducible refine (CV.out _).mono ?_); rintro e w1 ⟨rfl, b1⟩; obtain ⟨c, w2, hrun, hc, b2, hL, hsz⟩ := conv_bytes x w1; have hb1 : Below (w.heap.size + 1) (w.alloc (.cells #[.string ⟨#[]⟩, .string ⟨#[]⟩, .slice none 0 0] 142)) w1 := (by rw [World.size_alloc] at b1; exact b1); have hs1 := hb1.size; have hbx := (HB0.out.past hb1 (by omega)).past b2 (by simp at hs1; omega); have k0 := hbx.c0; have k1 := hbx.c1; have k2 := hbx.c2; have f0 := hbx.fr 0; have f1 := hbx.fr 1; have f2 := hbx.fr 2)
  have hbt : Below w.heap.size w w2 := (Below.new w _).trans ((hb1.mono (Nat.le_succ _)).trans (b2.mono (by simp at hs1; omega)))
  have hne : w.heap.size < w1.heap.size := by simp at hs1; omega
  refine bodyPost_ret (v := srchV p (vsT (bl p)) w1.heap.size x.size c) (by simp [results, Tryd.results135, go_sem, k0, k1, k2, f0, f1, f2]) rfl ?_
  refine ⟨_, _, rfl, ?_, hc, by omega, ((hbt.setCell (p := ⟨w.heap.size, 0, none⟩) (Nat.le_refl _) _).setCell (p := ⟨w.heap.size, 1, none⟩) (Nat.le_refl _) _).setCell (p := ⟨w.heap.size, 2, none⟩) (Nat.le_refl _) _⟩
  have h1 : ∀ (a : Addr) (u : Value) (W : World), a.block = w.heap.size → LettersAt W w1.heap.size (bl x) → LettersAt (W.setCell a u) w1.heap.size (bl x) := fun a u W e h =>
    ⟨by simpa using h.1, fun j hj => by rw [World.cell?_of_block (Below.heap_setCell W a u w1.heap.size (by rw [e]; omega))]; exact h.2 j hj⟩
  exact h1 _ _ _ rfl (h1 _ _ _ rfl (h1 _ _ _ rfl hL))

end Go.Proofs.YtfipbnognjepkaaDoor
