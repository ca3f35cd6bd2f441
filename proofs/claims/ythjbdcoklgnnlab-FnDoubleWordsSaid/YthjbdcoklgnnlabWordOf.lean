/- Words of lists of numbers. -/
import Derived.Test.YthjbdcoklgnnlabInts
import Derived.Test.YthjbdcoklgnnlabWordOfPlain
import Derived.Test.YthjbdcoklgnnlabShelf
import Derived.Lib.OthersKept
namespace Go.Proofs.Ythjbdcoklgnnlab
set_option linter.unusedVariables false
set_option linter.unusedSimpArgs false
open Go.RowKit

set_option maxRecDepth 100000 in
theorem areLN_yes (B : Nat) (v : Value) (L : List Int) (w : World) (h : OwnI w B v L) (hl : L.length ≤ 1048576) (hok : okN L) :
    Calls Try.prog 94 #[v] w fun e w' => e = .returned (.bool true) ∧ Below w.heap.size w w' := by
  by_cases h0 : L = []
  · subst h0
    obtain ⟨a1, c1, rfl⟩ := h.empty
    clear h hok
    go_enter Try.func94, Try.ntmps94
    go_wp2
    refine wp_loop_rounds 1 ?_
    rw [rounds_succ]
    go_wp2
    go_ret
    exact ⟨rfl, Below.refl _ _⟩
  · have hn : 0 < L.length := List.length_pos_iff.2 h0
    obtain ⟨g, c, rfl, _, hg, hc, hm, cell, _⟩ := h.row hn
    have C := Lib.hid cell
    have OK := Lib.hid hok
    clear h cell h0 hok
    go_enter Try.func94, Try.ntmps94
    go_wp2
    go_loopw [7] (fun i wr => ∃ k : Nat, k ≤ L.length ∧ i = .int .i64 k ∧ wr = w) (fun i _ => L.length - (intOf i).toNat)
    case atStart => exact ⟨0, Nat.zero_le _, rfl, rfl⟩
    case round =>
      obtain ⟨k, hk, rfl, rfl⟩ := hrel
      by_cases hp : k < L.length
      · have k1 := C.out k hp
        have hok := OK.out k hp
        generalize L[k]'hp = z at k1 hok
        obtain ⟨o1, o2⟩ := hok
        have hpc : k < c := by omega
        go_wp2
        go_roundw
        case rel => exact ⟨k + 1, by omega, by go_num, by first | rfl | trivial⟩
        case measure => simp [intOf]; omega
      · go_wp2
        go_ret
        exact ⟨rfl, Below.refl _ _⟩

set_option maxRecDepth 100000 in
theorem areLN_no (B : Nat) (v : Value) (L : List Int) (w : World) (h : OwnI w B v L) (hl : L.length ≤ 1048576) (hok : ¬ okN L) :
    Calls Try.prog 94 #[v] w fun e w' => e = .returned (.bool false) ∧ Below w.heap.size w w' := by
  have h0 : L ≠ [] := fun e => by subst e; exact hok okN_nil
  have hn : 0 < L.length := List.length_pos_iff.2 h0
  obtain ⟨g, c, rfl, _, hg, hc, hm, cell, _⟩ := h.row hn
  have C := Lib.hid cell
  have OK := Lib.hid hok
  clear h cell h0 hok
  go_enter Try.func94, Try.ntmps94
  go_wp2
  go_loopw [7] (fun i wr => ∃ k : Nat, k ≤ L.length ∧ i = .int .i64 k ∧ wr = w ∧ okTo L k) (fun i _ => L.length - (intOf i).toNat)
  case atStart => exact ⟨0, Nat.zero_le _, rfl, rfl, okTo.zero L⟩
  case round =>
    obtain ⟨k, hk, rfl, rfl, hu⟩ := hrel
    have hp : k < L.length := Nat.lt_of_not_le fun hp => OK.out (hu.whole hp)
    have HU := Lib.hid hu
    clear hu
    have k1 := C.out k hp
    have hpc : k < c := by omega
    by_cases hlo : L[k]'hp < 0
    · generalize L[k]'hp = z at *
      go_wp2
      go_ret
      exact ⟨rfl, Below.refl _ _⟩
    · by_cases hhi : L[k]'hp ≤ 4
      · have HS := Lib.hid (HU.out.succ hp (by omega) hhi)
        have HC := Lib.hid k1
        clear k1
        generalize hz : L[k]'hp = z at *
        clear hz
        have k1 := HC.out
        go_wp2
        go_roundw
        case rel => exact ⟨k + 1, by omega, by go_num, by first | rfl | trivial, HS.out⟩
        case measure => simp [intOf]; omega
      · generalize L[k]'hp = z at *
        go_wp2
        go_ret
        exact ⟨rfl, Below.refl _ _⟩

set_option maxRecDepth 100000 in
theorem letterOf_any (n : Int) (w : World) (h0 : 0 ≤ n) (h4 : n ≤ 4) :
    Calls Try.prog 100 #[.int .i64 n] w fun e w' => e = .returned (.int .i32 (97 + n)) ∧ w = w' := by
  go_enter Try.func100, Try.ntmps100
  go_wp2
  go_ret
  exact ⟨rfl, rfl⟩

set_option maxRecDepth 100000 in
set_option maxHeartbeats 1000000 in
theorem wordOf_any (B : Nat) (v : Value) (L : List Int) (w : World) (h : OwnI w B v L) (hl : L.length ≤ 60) (hok : okN L) :
    Calls Try.prog 95 #[v] w fun e w' => e = .returned (.string (wordB L)) ∧ Below w.heap.size w w' := by
  have OK := Lib.hid hok
  have HO := Lib.hid h
  clear hok
  have hfb : Lib.IsBuilderF 132 5 w.heap.size w.heap.size (Lib.byteCells []) (w.alloc (.cells #[.pointer none, .slice none 0 0] 132)) := Lib.IsBuilderF.of (Lib.fresh_isBuilder 132 5 w)
  have HB := Lib.hid hfb
  clear hfb
  by_cases h0 : L = []
  · subst h0
    obtain ⟨a1, c1, rfl⟩ := h.empty
    clear h HO OK
    go_enter Try.func95, Try.ntmps95
    go_wp2
    refine wp_loop_rounds 1 ?_
    rw [rounds_succ]
    go_wp2_with (go_at_call 151; refine (Try.Builder_String_any_k w.heap.size w.heap.size [] _ HB.out (by simp)).mono ?_; rintro e w2 ⟨rfl, _, b2, _⟩)
    go_ret
    exact ⟨rfl, (Below.new _ _).trans b2⟩
  · have hn : 0 < L.length := List.length_pos_iff.2 h0
    obtain ⟨g, c, rfl, _, hg, hc, hm, cell, _⟩ := h.row hn
    have C := Lib.hid cell
    clear h cell h0
    go_enter Try.func95, Try.ntmps95
    go_wp2
    go_loopw [8] (fun i wr => ∃ k : Nat, k ≤ L.length ∧ i = .int .i64 k ∧ Lib.IsBuilderF 132 5 w.heap.size w.heap.size (Lib.byteCells (wordL (L.take k))) wr ∧ Below w.heap.size w wr) (fun i _ => L.length - (intOf i).toNat)
    case atStart => exact ⟨0, Nat.zero_le _, rfl, HB.out, Below.new _ _⟩
    case round =>
      obtain ⟨k, hk, rfl, hI, hB⟩ := hrel
      by_cases hp : k < L.length
      · have k1 : (wr.cell? ⟨g, k, none⟩) = some (.int .i64 (L[k]'hp)) := by rw [(bcell hB).1 g k hg]; exact C.out k hp
        have hokk := OK.out k hp
        have hrc := runeCells_letter hokk.1 hokk.2
        have hsn := wordL_snoc L k hp
        have hln := wordL_len L k (by omega)
        have HRC := Lib.hid hrc
        have HSN := Lib.hid hsn
        have HLN := Lib.hid hln
        have HI := Lib.hid hI
        have HK1 := Lib.hid k1
        clear hrc hsn hln hI k1
        have hz := hB.size
        generalize hzz : L[k]'hp = z at *
        clear hzz
        obtain ⟨o1, o2⟩ := hokk
        have hpc : k < c := by omega
        have k1 := HK1.out
        go_wp2_with fail
        refine (letterOf_any z _ o1 o2).mono ?_
        rintro e w2 ⟨rfl, rfl⟩
        go_wp2_with fail
        refine (Try.Builder_WriteRune_k w.heap.size w.heap.size _ (97 + z) (by omega) (by omega) wr HI.out (by rw [Lib.byteCells_length, HLN.out]; omega) hz).mono ?_
        rintro e w2 ⟨rfl, hI2, b2, _⟩
        rw [HRC.out, ← Lib.byteCells_append, HSN.out] at hI2
        have HI2 := Lib.hid hI2
        clear hI2
        go_wp2_with fail
        go_roundw
        case rel => exact ⟨k + 1, by omega, by go_num, .inr HI2.out, hB.trans b2⟩
        case measure => simp [intOf]; omega
      · have hke : L.length ≤ k := by omega
        have hz := hB.size
        rw [List.take_of_length_le hke] at hI
        have HI := Lib.hid hI
        clear hI
        go_wp2_with fail
        refine (Try.Builder_String_any_k w.heap.size w.heap.size (wordL L) _ HI.out hz).mono ?_
        rintro e w2 ⟨rfl, _, b2, _⟩
        go_wp2_with fail
        go_ret
        exact ⟨rfl, hB.trans b2⟩

end Go.Proofs.Ythjbdcoklgnnlab
