/- Words of lists of numbers. -/
import Derived.Test.YtolboinemechpabInts
import Derived.Test.YtolboinemechpabWordOfPlain
import Derived.Test.YtolboinemechpabShelf
import Derived.Lib.OthersKept
namespace Go.Proofs.Ytolboinemechpab
set_option linter.unusedVariables false
set_option linter.unusedSimpArgs false
open Go.RowKit

set_option maxRecDepth 100000 in
theorem letterOf_any (n : Int) (w : World) (h0 : 0 ≤ n) (h4 : n ≤ 4) :
    Calls Try.prog 98 #[.int .i64 n] w fun e w' => e = .returned (.int .i32 (97 + n)) ∧ w = w' := by
  go_enter Try.func98, Try.ntmps98
  go_wp2
  go_ret
  exact ⟨rfl, rfl⟩

set_option maxRecDepth 100000 in
set_option maxHeartbeats 1000000 in
theorem wordOf_any (B : Nat) (v : Value) (L : List Int) (w : World) (h : OwnI w B v L) (hl : L.length ≤ 60) (hok : okN L) :
    Calls Try.prog 70 #[v] w fun e w' => e = .returned (.string (wordB L)) ∧ Below w.heap.size w w' := by
  have OK := Lib.hid hok
  have HO := Lib.hid h
  clear hok
  have hfb : Lib.IsBuilderF 140 5 w.heap.size w.heap.size (Lib.byteCells []) (w.alloc (.cells #[.pointer none, .slice none 0 0] 140)) := Lib.IsBuilderF.of (Lib.fresh_isBuilder 140 5 w)
  have HB := Lib.hid hfb
  clear hfb
  by_cases h0 : L = []
  · subst h0
    obtain ⟨a1, c1, rfl⟩ := h.empty
    clear h HO OK
    go_enter Try.func70, Try.ntmps70
    go_wp2
    refine wp_loop_rounds 1 ?_
    rw [rounds_succ]
    go_wp2_with (go_at_call 125; refine (Try.Builder_String_any_k w.heap.size w.heap.size [] _ HB.out (by simp)).mono ?_; rintro e w2 ⟨rfl, _, b2, _⟩)
    go_ret
    exact ⟨rfl, (Below.new _ _).trans b2⟩
  · have hn : 0 < L.length := List.length_pos_iff.2 h0
    obtain ⟨g, c, rfl, _, hg, hc, hm, cell, _⟩ := h.row hn
    have C := Lib.hid cell
    clear h cell h0
    go_enter Try.func70, Try.ntmps70
    go_wp2
    go_loopw [8] (fun i wr => ∃ k : Nat, k ≤ L.length ∧ i = .int .i64 k ∧ Lib.IsBuilderF 140 5 w.heap.size w.heap.size (Lib.byteCells (wordL (L.take k))) wr ∧ Below w.heap.size w wr) (fun i _ => L.length - (intOf i).toNat)
    case atStart => exact ⟨0, Nat.zero_le _, rfl, HB.out, Below.new _ _⟩
    case round =>
      obtain ⟨k, hk, rfl, hI, hB⟩ := hrel
      by_cases hp : k < L.length
      · have k1 : (wr.cell? ⟨g, k, none⟩) = some (.int .i64 (L[k]'hp)) := by rw [(bcell hB).1 g k hg]; exact C.out k hp
        have hokk := OK.out k hp
        have hrc := runeCells_letter hokk.1 hokk.2
        have hsn := wordL_snoc L k hp
        have hln := wordL_len L k (by omega)
        have HRC := Lib.hid hrc
        have HSN := Lib.hid hsn
        have HLN := Lib.hid hln
        have HI := Lib.hid hI
        have HK1 := Lib.hid k1
        clear hrc hsn hln hI k1
        have hz := hB.size
        generalize hzz : L[k]'hp = z at *
        clear hzz
        obtain ⟨o1, o2⟩ := hokk
        have hpc : k < c := by omega
        have k1 := HK1.out
        go_wp2_with fail
        refine (letterOf_any z _ o1 o2).mono ?_
        rintro e w2 ⟨rfl, rfl⟩
        go_wp2_with fail
        refine (Try.Builder_WriteRune_k w.heap.size w.heap.size _ (97 + z) (by omega) (by omega) wr HI.out (by rw [Lib.byteCells_length, HLN.out]; omega) hz).mono ?_
        rintro e w2 ⟨rfl, hI2, b2, _⟩
        rw [HRC.out, ← Lib.byteCells_append, HSN.out] at hI2
        have HI2 := Lib.hid hI2
        clear hI2
        go_wp2_with fail
        go_roundw
        case rel => exact ⟨k + 1, by omega, by go_num, .inr HI2.out, hB.trans b2⟩
        case measure => simp [intOf]; omega
      · have hke : L.length ≤ k := by omega
        have hz := hB.size
        rw [List.take_of_length_le hke] at hI
        have HI := Lib.hid hI
        clear hI
        go_wp2_with fail
        refine (Try.Builder_String_any_k w.heap.size w.heap.size (wordL L) _ HI.out hz).mono ?_
        rintro e w2 ⟨rfl, _, b2, _⟩
        go_wp2_with fail
        go_ret
        exact ⟨rfl, hB.trans b2⟩

end Go.Proofs.Ytolboinemechpab
