/- The channel over which the factors come: the program. -/
import Derived.Test.YtbhgghajbdlfkabGreatFactorsI
import Derived.Test.YtbhgghajbdlfkabGreatGapPlain
import Derived.Test.YtbhgghajbdlfkabGreatChanOps
import Derived.Deep.LoopGhost
import Derived.Conc.SmallLaws
import Derived.Conc.EventLaws
namespace Go.Proofs.YtbhgghajbdlfkabGreat
set_option linter.unusedVariables false
set_option linter.unusedSimpArgs false
open Go.RowKit Go.Conc

theorem infoStrO : (Tryz.prog.info? 9).map (fun i => i.bytes) = some 16 := by kernel_rfl
theorem run_mkChan (n : Nat) (hn : n ≤ 4096) (W : World) : (Instr.makeChan 116 (.int .i64 (n : Int))).run Tryz.prog W = .ok (.chan (some W.heap.size)) (W.alloc (.chan n #[] false 0 0 false)) := by
  obtain ⟨i, hi, hb⟩ := Option.map_eq_some_iff.1 infoStrO
  exact run_makeChan (P := Tryz.prog) (w := W) Tryz.underlying116 hi .i64 n (by omega) (by rw [hb]; omega)

theorem OwnS.lookO {w : World} {B : Nat} {v : Value} {L : List ByteArray} (h : OwnS w B v L) : ∃ ad cap, v = .slice ad L.length cap ∧ ∀ j (hj : j < L.length), ∃ g, ad = some ⟨g, 0, none⟩ ∧ g < w.heap.size ∧ j < cap ∧ w.cell? ⟨g, j, none⟩ = some (.string (L[j]'hj)) := by
  rcases own_forms h with ⟨rfl, h0, _⟩ | ⟨g, cap, rfl, _, hg, hc, _, hk, _⟩
  · exact ⟨_, _, by rw [h0], fun j hj => by omega⟩
  · refine ⟨_, _, rfl, fun j hj => ⟨g, rfl, hg, by omega, ?_⟩⟩
    rw [hk j hj]
    simp [hj]

/-- What the channel holds. -/
def bufS (L : List ByteArray) : Array Value := (L.map Value.string).toArray
theorem bufS_snoc (L : List ByteArray) (z : ByteArray) : (bufS L).push (.string z) = bufS (L ++ [z]) := by simp [bufS]
theorem bufS_size (L : List ByteArray) : (bufS L).size = L.length := by simp [bufS]
/-- An open channel with so many in it; all else below it as it was. -/
def ChanAt (w : World) (c cap : Nat) (L : List ByteArray) (closed : Bool) (s r : Nat) : Prop := w.heap[c]? = some (.chan cap (bufS L) closed s r false)

theorem cell_setChan {w : World} {c : Nat} (cap : Nat) (buf : Array Value) (cl : Bool) (s r : Nat) (tm : Bool) {a : Addr} (h : a.block ≠ c) : (w.setChan c cap buf cl s r tm).cell? a = w.cell? a := by
  unfold World.cell? World.setChan
  simp only
  rw [Array.getElem?_setIfInBounds_ne (fun e => h e.symm)]

set_option maxRecDepth 100000 in
set_option maxHeartbeats 1000000 in
theorem factorsOver_any (x : ByteArray) (m : Int) (w : World) (sx : x.size ≤ maxLen) (wm : (Lit.int .i64 m).wf = true) :
    Calls Tryz.prog 76 #[.string x, .int .i64 m] w fun e w' => ∃ c, e = .returned (.chan (some c)) ∧ w.heap.size ≤ c ∧ c < w'.heap.size ∧ (∃ s, ChanAt w' c (factorsR x m).1.length (factorsR x m).1 true s 0) ∧ Below w.heap.size w w' := by
  have HC := Lib.hid fun w => impl_FactorsOf x m w sx wm
  have hl := factorsR_len x m
  generalize (factorsR x m).1 = L at *
  generalize (factorsR x m).2 = cd at *
  have hmk := run_mkChan L.length hl
  go_enter Tryz.func76, Tryz.ntmps76
  go_wp2_with (go_at_call 20; refine (HC.out _).mono ?_; rintro e w1 ⟨v, rfl, o1, b1⟩; obtain ⟨a1, c1, rfl, k1⟩ := o1.lookO; have K1 := Lib.hid k1; clear o1 k1)
  go_loopg [21] L.length (fun gk i wr => ∃ k : Nat, k + gk = L.length ∧ i = .int .i64 (k : Int) ∧ ChanAt wr w1.heap.size L.length (L.take k) false k 0 ∧ Below w1.heap.size w1 wr)
  case atStart => exact ⟨0, by omega, rfl, World.alloc_heap_new w1 _, Below.new _ _⟩
  case round =>
    obtain ⟨k, hk, rfl, hch, hB⟩ := hrel
    by_cases hp : k < L.length
    · obtain ⟨gq, rfl⟩ : ∃ gq, gk = gq + 1 := ⟨gk - 1, by omega⟩
      have HK := Lib.hid hk
      obtain ⟨g, rfl, hg, hkc, hc0⟩ := K1.out k hp
      have hc := ((bcell hB).1 g k hg).trans hc0
      have hpi : (k : Int) < (L.length : Int) := by omega
      have HS : Hid (L.take (k + 1) = L.take k ++ [L[k]'hp]) := Lib.hid (List.take_succ_eq_append_getElem hp)
      clear hk hc0
      generalize L[k]'hp = z at *
      go_upto_region 6 with fail
      refine opsTo_region ?_
      show OpsTo _ _ _ [0, 1, 2] _ _
      refine opsTo_value (v := .chan (some w1.heap.size)) (w' := wr) rfl rfl (by simp [go_sem, Act.eval]) ?_
      refine opsTo_value (v := .string z) (w' := wr) rfl rfl (by simp [go_sem, Act.eval, Act.put]) ?_
      refine opsTo_send (c := w1.heap.size) (v := .string z) (z' := .tuple #[]) (w₁ := wr) rfl rfl (by simp [go_sem, Act.eval, Act.put, scase]) hch (by rw [bufS_size, List.length_take]; omega) ?_
      refine opsTo_nil ?_
      have hlt : w1.heap.size < wr.heap.size := (Array.getElem?_eq_some_iff.1 hch).1
      have hch2 : ChanAt (wr.setChan w1.heap.size L.length ((bufS (L.take k)).push (.string z)) false (k + 1) 0 false) w1.heap.size L.length (L.take (k + 1)) false (k + 1) 0 := by
        unfold ChanAt
        rw [heap_setChan _ _ _ _ _ _ _ _ hlt, bufS_snoc, HS.out]
      have hB2 := below_setChan hB (Nat.le_refl _) L.length ((bufS (L.take k)).push (.string z)) false (k + 1) 0 false
      generalize wr.setChan w1.heap.size L.length ((bufS (L.take k)).push (.string z)) false (k + 1) 0 false = wn at *
      simp only [Act.put, List.setIfInBounds_toArray, List.set_cons_succ, List.set_cons_zero]
      go_wp2
      go_roundg gq
      case measure => omega
      case rel => exact ⟨k + 1, by have := HK.out; omega, by go_num, hch2, hB2⟩
    · obtain rfl : gk = 0 := by omega
      obtain rfl : k = L.length := by omega
      have hpi : ¬ ((L.length : Nat) : Int) < (L.length : Int) := by omega
      rw [List.take_length] at hch
      have hlt : w1.heap.size < wr.heap.size := (Array.getElem?_eq_some_iff.1 hch).1
      have hcl := fun ats ty => run_close_open (P := Tryz.prog) (w := wr) ats ty hch
      have hch2 : ChanAt { wr with heap := wr.heap.setIfInBounds w1.heap.size (.chan L.length (bufS L) true L.length 0 false) } w1.heap.size L.length L true L.length 0 := heap_setChan wr w1.heap.size L.length (bufS L) true L.length 0 false hlt
      have hB2 : Below w1.heap.size w1 { wr with heap := wr.heap.setIfInBounds w1.heap.size (.chan L.length (bufS L) true L.length 0 false) } := below_setChan hB (Nat.le_refl _) L.length (bufS L) true L.length 0 false
      have hz2 : w1.heap.size < ({ wr with heap := wr.heap.setIfInBounds w1.heap.size (.chan L.length (bufS L) true L.length 0 false) } : World).heap.size := by simpa using hlt
      generalize { wr with heap := wr.heap.setIfInBounds w1.heap.size (.chan L.length (bufS L) true L.length 0 false) } = wn at *
      clear hch
      go_wp2
      go_ret
      exact ⟨_, rfl, b1.size, hz2, ⟨_, hch2⟩, b1.then hB2⟩

end Go.Proofs.YtbhgghajbdlfkabGreat
