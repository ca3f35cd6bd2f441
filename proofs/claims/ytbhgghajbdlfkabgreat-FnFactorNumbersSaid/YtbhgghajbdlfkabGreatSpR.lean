/- Right special, left special and bispecial factors: the model's functions. -/
import Derived.Test.YtbhgghajbdlfkabGreatSpS
import Derived.Test.YtbhgghajbdlfkabGreatSpL
namespace Go.Proofs.YtbhgghajbdlfkabGreat
set_option linter.unusedVariables false
set_option linter.unusedSimpArgs false
open Go.RowKit

def rsR (x : ByteArray) (m : Int) : List ByteArray × Int := (filtK x [true] (factorsR x m).1, (factorsR x m).2)
def lsR (x : ByteArray) (m : Int) : List ByteArray × Int := (filtK x [false] (factorsR x m).1, (factorsR x m).2)
def bsR (x : ByteArray) (m : Int) : List ByteArray × Int := (filtK x [true, false] (factorsR x m).1, (factorsR x m).2)
theorem rsR_len (x : ByteArray) (m : Int) : (rsR x m).1.length ≤ 4096 := Nat.le_trans (filtK_len x _ _) (factorsR_len x m)
theorem lsR_len (x : ByteArray) (m : Int) : (lsR x m).1.length ≤ 4096 := Nat.le_trans (filtK_len x _ _) (factorsR_len x m)
theorem bsR_len (x : ByteArray) (m : Int) : (bsR x m).1.length ≤ 4096 := Nat.le_trans (filtK_len x _ _) (factorsR_len x m)

theorem filtK_one (x : ByteArray) (r : Bool) (m : Nat) : filtK x [r] (facs x m) = spF x m r := rfl

set_option maxRecDepth 100000 in
theorem spec_RightSpecial (x : ByteArray) (m : Int) (w : World) (sx : x.size ≤ maxLen) (wm : (Lit.int .i64 m).wf = true) :
    Calls Tryz.prog 11 #[.string x, .int .i64 m] w (RetS (rsR x m).1 (rsR x m).2 w) := by
  have HT := Lib.hid fun w => l05Code_any x m w sx
  unfold rsR
  by_cases h : IsW x
  · by_cases ho : m < 0 ∨ 60 < m
    · rw [factorsR_out h ho]
      rw [code5_out h ho] at HT
      rw [filtK_nil]
      clear h ho
      go_enter Tryz.func11, Tryz.ntmps11
      go_wp2_with fail
      refine (HT.out _).mono ?_
      rintro e w1 ⟨rfl, b1⟩
      go_wp2_with fail
      go_ret2
      exact ⟨_, rfl, OwnS.nil _ _, b1⟩
    · obtain ⟨n, rfl⟩ := Int.eq_ofNat_of_zero_le (show 0 ≤ m by omega)
      have hn : n ≤ 60 := by omega
      rw [code5_ok h ho] at HT
      rw [factorsR_ok h hn]
      have HS := Lib.hid fun w => l05SpecialR_any x n w h.size hn
      rw [← spF_eq h n true] at HS
      change Calls _ _ _ _ (RetS (spF x n true) 0 w)
      generalize spF x n true = L at *
      clear h ho
      go_enter Tryz.func11, Tryz.ntmps11
      go_wp2_with fail
      refine (HT.out _).mono ?_
      rintro e w1 ⟨rfl, b1⟩
      go_wp2_with fail
      refine (HS.out _).mono ?_
      rintro e w2 ⟨v2, rfl, o2, b2⟩
      go_wp2_with fail
      go_ret2
      exact ⟨_, rfl, OwnS.base o2 b1.size, b1.then b2⟩
  · rw [factorsR_bad h]
    rw [code5_bad h] at HT
    rw [filtK_nil]
    clear h
    go_enter Tryz.func11, Tryz.ntmps11
    go_wp2_with fail
    refine (HT.out _).mono ?_
    rintro e w1 ⟨rfl, b1⟩
    go_wp2_with fail
    go_ret2
    exact ⟨_, rfl, OwnS.nil _ _, b1⟩

set_option maxRecDepth 100000 in
theorem spec_LeftSpecial (x : ByteArray) (m : Int) (w : World) (sx : x.size ≤ maxLen) (wm : (Lit.int .i64 m).wf = true) :
    Calls Tryz.prog 13 #[.string x, .int .i64 m] w (RetS (lsR x m).1 (lsR x m).2 w) := by
  have HT := Lib.hid fun w => l05Code_any x m w sx
  unfold lsR
  by_cases h : IsW x
  · by_cases ho : m < 0 ∨ 60 < m
    · rw [factorsR_out h ho]
      rw [code5_out h ho] at HT
      rw [filtK_nil]
      clear h ho
      go_enter Tryz.func13, Tryz.ntmps13
      go_wp2_with fail
      refine (HT.out _).mono ?_
      rintro e w1 ⟨rfl, b1⟩
      go_wp2_with fail
      go_ret2
      exact ⟨_, rfl, OwnS.nil _ _, b1⟩
    · obtain ⟨n, rfl⟩ := Int.eq_ofNat_of_zero_le (show 0 ≤ m by omega)
      have hn : n ≤ 60 := by omega
      rw [code5_ok h ho] at HT
      rw [factorsR_ok h hn]
      have HS := Lib.hid fun w => l05SpecialL_any x n w h.size hn
      rw [← spF_eq h n false] at HS
      change Calls _ _ _ _ (RetS (spF x n false) 0 w)
      generalize spF x n false = L at *
      clear h ho
      go_enter Tryz.func13, Tryz.ntmps13
      go_wp2_with fail
      refine (HT.out _).mono ?_
      rintro e w1 ⟨rfl, b1⟩
      go_wp2_with fail
      refine (HS.out _).mono ?_
      rintro e w2 ⟨v2, rfl, o2, b2⟩
      go_wp2_with fail
      go_ret2
      exact ⟨_, rfl, OwnS.base o2 b1.size, b1.then b2⟩
  · rw [factorsR_bad h]
    rw [code5_bad h] at HT
    rw [filtK_nil]
    clear h
    go_enter Tryz.func13, Tryz.ntmps13
    go_wp2_with fail
    refine (HT.out _).mono ?_
    rintro e w1 ⟨rfl, b1⟩
    go_wp2_with fail
    go_ret2
    exact ⟨_, rfl, OwnS.nil _ _, b1⟩
theorem impl_RightSpecial (x : ByteArray) (m : Int) (w : World) (sx : x.size ≤ maxLen) (wm : (Lit.int .i64 m).wf = true) (hM : MaxOK5 w) :
    Calls Tryz.prog 10 #[.string x, .int .i64 m] w (RetS (rsR x m).1 (rsR x m).2 w) := implK_RightSpecial x m w sx wm hM
theorem impl_LeftSpecial (x : ByteArray) (m : Int) (w : World) (sx : x.size ≤ maxLen) (wm : (Lit.int .i64 m).wf = true) (hM : MaxOK5 w) :
    Calls Tryz.prog 12 #[.string x, .int .i64 m] w (RetS (lsR x m).1 (lsR x m).2 w) := implK_LeftSpecial x m w sx wm hM
theorem impl_Bispecial (x : ByteArray) (m : Int) (w : World) (sx : x.size ≤ maxLen) (wm : (Lit.int .i64 m).wf = true) (hM : MaxOK5 w) :
    Calls Tryz.prog 8 #[.string x, .int .i64 m] w (RetS (bsR x m).1 (bsR x m).2 w) := implK_Bispecial x m w sx wm hM
/-- Is the word among the first so many? -/
def fndB (L : List ByteArray) (z : ByteArray) (k : Nat) : Bool := (List.range k).any fun b => decide (L.getD b ByteArray.empty = z)
theorem fndB_succ (L : List ByteArray) (z : ByteArray) (k : Nat) : fndB L z (k + 1) = (fndB L z k || decide (L.getD k ByteArray.empty = z)) := by
  unfold fndB; rw [List.range_succ, List.any_append]; simp
theorem fndB_all (L : List ByteArray) (z : ByteArray) : fndB L z L.length = inL z L := by
  rw [Bool.eq_iff_iff, inL_iff]
  unfold fndB
  rw [List.any_eq_true]
  constructor
  · rintro ⟨b, hb, e⟩
    have hb := List.mem_range.1 hb
    rw [getD_lt5 hb] at e
    exact of_decide_eq_true e ▸ List.getElem_mem hb
  · intro h
    obtain ⟨b, hb, rfl⟩ := List.getElem_of_mem h
    exact ⟨b, List.mem_range.2 hb, decide_eq_true (getD_lt5 hb)⟩
theorem fndB_once {L : List ByteArray} (hL : Asc L) {z : ByteArray} {k : Nat} (hk : k < L.length) (h : L.getD k ByteArray.empty = z) : fndB L z k = false := by
  apply Bool.eq_false_iff.2
  intro hf
  unfold fndB at hf
  obtain ⟨b, hb, e⟩ := List.any_eq_true.1 hf
  have hb := List.mem_range.1 hb
  have e := of_decide_eq_true e
  rw [getD_lt5 (show b < L.length by omega)] at e
  rw [getD_lt5 hk] at h
  have := List.pairwise_iff_getElem.1 hL b k (by omega) hk hb
  rw [e, h] at this
  exact wlt_irrefl _ this
/-- What is told so far. -/
def bisC (R L : List ByteArray) (i k : Nat) : List ByteArray := (R.take i).filter (fun z => inL z L) ++ (if fndB L (R.getD i ByteArray.empty) k = true then [R.getD i ByteArray.empty] else [])
theorem bisC_zero (R L : List ByteArray) (i : Nat) : bisC R L i 0 = (R.take i).filter (fun z => inL z L) := by unfold bisC fndB; simp
theorem bisC_end (R L : List ByteArray) (i : Nat) (h : i < R.length) : bisC R L i L.length = bisC R L (i + 1) 0 := by
  rw [bisC_zero, List.take_succ_eq_append_getElem h, List.filter_append]
  unfold bisC
  rw [fndB_all, getD_lt5 h]
  congr 1
  by_cases e : inL (R[i]'h) L = true
  · rw [if_pos e]; simp [e]
  · rw [if_neg e]; simp [e]
theorem bisC_hit {R L : List ByteArray} (hL : Asc L) {i k : Nat} (hk : k < L.length) (h : L.getD k ByteArray.empty = R.getD i ByteArray.empty) : bisC R L i (k + 1) = bisC R L i k ++ [R.getD i ByteArray.empty] := by
  unfold bisC
  rw [fndB_succ, fndB_once hL hk h, decide_eq_true h]
  simp
theorem bisC_miss (R L : List ByteArray) (i k : Nat) (h : ¬ L.getD k ByteArray.empty = R.getD i ByteArray.empty) : bisC R L i (k + 1) = bisC R L i k := by
  unfold bisC
  rw [fndB_succ, decide_eq_false h, Bool.or_false]
theorem bisC_len (R L : List ByteArray) (i k : Nat) : (bisC R L i k).length ≤ i + 1 := by
  unfold bisC
  rw [List.length_append]
  have h1 := List.length_filter_le (fun z => inL z L) (R.take i)
  have h2 : (R.take i).length ≤ i := by rw [List.length_take]; omega
  split <;> simp <;> omega
theorem bisC_all (R L : List ByteArray) : bisC R L R.length 0 = R.filter (fun z => inL z L) := by rw [bisC_zero, List.take_length]
theorem bis_eq {x : ByteArray} (h : IsW x) (m : Nat) : (spF x m true).filter (fun z => inL z (spF x m false)) = filtK x [true, false] (facs x m) := by
  show _ = ((facs x m).filter (spB x true)).filter (spB x false)
  unfold spF
  refine List.filter_congr fun z hz => ?_
  have hz := (List.mem_filter.1 hz).1
  rw [Bool.eq_iff_iff, inL_iff, List.mem_filter]
  exact ⟨fun k => k.2, fun k => ⟨hz, k⟩⟩

end Go.Proofs.YtbhgghajbdlfkabGreat
