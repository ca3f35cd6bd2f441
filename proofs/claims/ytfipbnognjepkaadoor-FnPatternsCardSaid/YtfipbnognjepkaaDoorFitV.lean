/- The values tried: a panic with them, or none. -/
import Derived.Test.YtfipbnognjepkaaDoorFitI
namespace Go.Proofs.YtfipbnognjepkaaDoor
set_option linter.unusedVariables false
set_option linter.unusedSimpArgs false
open Go.RowKit

def vsE (v : Nat) : UInt8 := UInt8.ofNat (65 + v)
def vsB (P : List UInt8) : List UInt8 := (vsOf P).map vsE
/-- The variables of a pattern as a text. -/
def vsT (P : List UInt8) : ByteArray := bt (vsB P)
theorem vsE_iff {v : Nat} {c : UInt8} (hv : v ≤ 2) (hc : 65 ≤ c.toNat ∧ c.toNat ≤ 67) : vsE v = c ↔ v = vn c := by
  unfold vsE vn
  constructor
  · intro h
    have := congrArg UInt8.toNat h
    rw [UInt8.toNat_ofNat', Nat.mod_eq_of_lt (by omega)] at this
    omega
  · intro h
    apply UInt8.toNat_inj.1
    rw [UInt8.toNat_ofNat', Nat.mod_eq_of_lt (by omega)]
    omega
theorem index_vs {c : UInt8} (hc : 65 ≤ c.toNat ∧ c.toNat ≤ 67) : ∀ vs : List Nat, (∀ v ∈ vs, v ≤ 2) → vn c ∈ vs → Lib.indexByte (vs.map vsE) c = (vs.idxOf (vn c) : Nat)
  | [], _, h => by cases h
  | v :: vs, h2, h => by
    rw [List.map_cons, Lib.indexByte, List.idxOf_cons]
    have hv := h2 v (List.mem_cons_self ..)
    by_cases e : v = vn c
    · have e2 := (vsE_iff hv hc).2 e
      simp [e, e2]
      rw [← e, e2]; simp
    · have e2 : ¬ vsE v = c := fun q => e ((vsE_iff hv hc).1 q)
      rcases List.mem_cons.1 h with q | q
      · exact absurd q.symm e
      · have ih := index_vs hc vs (fun u hu => h2 u (List.mem_cons_of_mem _ hu)) q
        have e3 : (v == vn c) = false := by rw [beq_eq_false_iff_ne]; exact e
        have e4 : (vsE v == c) = false := by rw [beq_eq_false_iff_ne]; exact e2
        rw [e3, e4, ih]
        simp
theorem vsOf_two {P : List UInt8} : ∀ v ∈ vsOf P, v ≤ 2 := fun v hv => (vsOf_mem.1 hv).1
theorem vs_mem {P : List UInt8} (hP : IsPL P) {c : UInt8} (hc : c ∈ P) : vn c ∈ vsOf P := vsOf_mem.2 ⟨hP.vn hc, cntV_pos.2 ⟨c, hc, rfl⟩⟩
theorem vix_lt {P : List UInt8} (hP : IsPL P) {c : UInt8} (hc : c ∈ P) : (vsOf P).idxOf (vn c) < (vsOf P).length := List.idxOf_lt_length_of_mem (vs_mem hP hc)
theorem vix_get {P : List UInt8} (hP : IsPL P) {c : UInt8} (hc : c ∈ P) : (vsOf P).getD ((vsOf P).idxOf (vn c)) 0 = vn c := by
  rw [List.getD_eq_getElem?_getD, List.getElem?_eq_getElem (vix_lt hP hc), List.getElem_idxOf]; rfl
theorem indexRune_vs {P : List UInt8} (hP : IsPL P) {c : UInt8} (hc : c ∈ P) (w : World) :
    Calls Tryd.prog 199 #[.string (vsT P), .int .i32 (c.toNat : Int)] w fun e w' => e = .returned (.int .i64 (((vsOf P).idxOf (vn c) : Nat) : Int)) ∧ w = w' := by
  have h := hP c hc
  refine (Tryd.strings_IndexRune_ascii (vsT P) (c.toNat : Int) w (by omega) (by omega)).mono ?_
  rintro e w' ⟨rfl, rfl⟩
  refine ⟨?_, rfl⟩
  have e1 : ((c.toNat : Int)).toNat.toUInt8 = c := by rw [Int.toNat_natCast]; simp
  rw [e1]
  have e2 : (vsT P).data.toList = (vsOf P).map vsE := rfl
  rw [e2, index_vs h _ vsOf_two (vs_mem hP hc)]
theorem vsOf_len (P : List UInt8) : (vsOf P).length ≤ 3 := by
  have := List.length_filter_le (fun v => decide (0 < cntV P v)) [0, 1, 2]
  exact this
theorem vsOf_pos {P : List UInt8} (hP : IsPL P) (h0 : P ≠ []) : 0 < (vsOf P).length := by
  cases P with
  | nil => exact absurd rfl h0
  | cons c P => exact List.length_pos_of_mem (vs_mem hP (List.mem_cons_self ..))
theorem vsT_size (P : List UInt8) : (vsT P).size = (vsOf P).length := by unfold vsT vsB; rw [bt_size, List.length_map]
theorem totL_take (L : Nat → Nat) : ∀ (P : List UInt8) (i : Nat) (h : i < P.length), totL L (P.take (i + 1)) = totL L (P.take i) + L (vn (P[i]'h))
  | [], i, h => by simp at h
  | c :: P, 0, h => by simp [totL]
  | c :: P, i + 1, h => by
    have := totL_take L P i (by simpa using h)
    rw [List.take_succ_cons, totL, this, List.take_succ_cons, totL, List.getElem_cons_succ]
    omega
theorem totL_mono (L : Nat → Nat) : ∀ (P : List UInt8) (i : Nat), totL L (P.take i) ≤ totL L P
  | [], i => by simp
  | c :: P, 0 => by simp [totL]
  | c :: P, i + 1 => by
    have := totL_mono L P i
    rw [List.take_succ_cons, totL, totL]
    omega
theorem make_F (n : Nat) (hn : n ≤ 60) (W : World) : (Instr.makeSlice 76 (.int .i64 (n : Int)) (.int .i64 (n : Int))).run Tryd.prog W = .ok (.slice (some ⟨W.heap.size, 0, none⟩) n n) (W.alloc (.cells (madeCells #[.slice none 0 0] n) 40)) := by
  obtain ⟨i0, hi, hz0, hz1, hz2⟩ := info_parts infoBs
  have := run_make (P := Tryd.prog) W 76 40 i0 (.slice none 0 0) Tryd.underlying76 hi hz0 .i64 .i64 n n (by omega) (Int.le_refl _) (by rw [hz2]; omega) (by omega)
  simpa [hz1, Value.cells] using this
theorem made_F (n : Nat) (hn : n ≤ 60) (W : World) (B : Nat) (hB : B ≤ W.heap.size) : TbF (W.alloc (.cells (madeCells #[.slice none 0 0] n) 40)) B W.heap.size 40 n (fun _ => .slice none 0 0) := by
  have h := own_base (World.ownsRow_lit (e := 40) W (madeCells #[.slice none 0 0] n) n (Nat.le_refl _) (by unfold maxLen; omega) (by simpa using size_madeCells (#[Value.slice none 0 0]) n)) hB
  have e := toList_madeCells_one (.slice none 0 0) n
  rw [e, ← tbF_const] at h
  exact h
theorem alloc_at (w : World) (o : Obj) : (w.alloc o).heap[w.heap.size]? = some o := by
  show (w.heap.push o)[w.heap.size]? = some o
  simp
/-- What the search holds as a struct, in its own cells. -/
def BoxS (w : World) (b : Nat) (p vs : ByteArray) (v : Value) : Prop := w.heap[b]? = some (.cells #[.string p, .string vs, v] 142 (0, 0))
theorem BoxS.c0 {w : World} {b : Nat} {p vs : ByteArray} {v : Value} (h : BoxS w b p vs v) : w.cell? ⟨b, 0, none⟩ = some (.string p) := by unfold BoxS at h; simp [World.cell?, h]
theorem BoxS.c1 {w : World} {b : Nat} {p vs : ByteArray} {v : Value} (h : BoxS w b p vs v) : w.cell? ⟨b, 1, none⟩ = some (.string vs) := by unfold BoxS at h; simp [World.cell?, h]
theorem BoxS.c2 {w : World} {b : Nat} {p vs : ByteArray} {v : Value} (h : BoxS w b p vs v) : w.cell? ⟨b, 2, none⟩ = some v := by unfold BoxS at h; simp [World.cell?, h]
theorem BoxS.fr {w : World} {b : Nat} {p vs : ByteArray} {v : Value} (h : BoxS w b p vs v) (i : Nat) : w.frozen? ⟨b, i, none⟩ = false := by unfold BoxS at h; simp [World.frozen?, h]
theorem BoxS.lt {w : World} {b : Nat} {p vs : ByteArray} {v : Value} (h : BoxS w b p vs v) : b < w.heap.size := (Array.getElem?_eq_some_iff.1 h).1
theorem BoxS.new (w : World) (p vs : ByteArray) (v : Value) : BoxS (w.alloc (.cells #[.string p, .string vs, v] 142)) w.heap.size p vs v := by
  unfold BoxS
  exact alloc_at w _
theorem BoxS.past {w w' : World} {b B : Nat} {p vs : ByteArray} {v : Value} (h : BoxS w b p vs v) (hb : Below B w w') (hlt : b < B) : BoxS w' b p vs v := (hb.block b hlt).trans h

end Go.Proofs.YtfipbnognjepkaaDoor
