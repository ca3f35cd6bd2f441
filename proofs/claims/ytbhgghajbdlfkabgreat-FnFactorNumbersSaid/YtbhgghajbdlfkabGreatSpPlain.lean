/- Plain facts: special factors, by letters that go on and by longer factors that agree. -/
import Derived.Test.YtbhgghajbdlfkabGreatGapPlain
import Derived.Test.YtbhgghajbdlfkabGreatWordsPlain
import Derived.Lib.IndexMore
namespace Go.Proofs.YtbhgghajbdlfkabGreat
set_option linter.unusedVariables false
set_option linter.unusedSimpArgs false
open Go.RowKit

def joinB (r : Bool) (f t : ByteArray) : ByteArray := if r then f ++ t else t ++ f
def ctB (x y : ByteArray) : Bool := Lib.contains x.data.toList y.data.toList
theorem mem_facs {x : ByteArray} {m : Nat} {z : ByteArray} : z ∈ facs x m ↔ ∃ i, i + m ≤ x.size ∧ z = x.extract i (i + m) := by
  unfold facs
  rw [mem_facK]
  constructor
  · rintro ⟨i, hi, rfl⟩
    exact ⟨i, by omega, rfl⟩
  · rintro ⟨i, hi, rfl⟩
    exact ⟨i, by omega, rfl⟩
theorem bytes_ext {a b : ByteArray} (h : a.data.toList = b.data.toList) : a = b := by
  have h3 : a.data = b.data := by rw [← Array.toList_inj]; exact h
  cases a; cases b; simp_all
theorem extract_list (x : ByteArray) (i j : Nat) : (x.extract i j).data.toList = (x.data.toList.drop i).take (j - i) := by
  rw [ByteArray.data_extract, Array.toList_extract, List.extract_eq_take_drop]
theorem ct_iff (x y : ByteArray) : ctB x y = true ↔ ∃ i, i + y.size ≤ x.size ∧ y = x.extract i (i + y.size) := by
  unfold ctB Lib.contains
  rw [decide_eq_true_eq]
  constructor
  · intro h
    rcases Lib.index_spec x.data.toList y.data.toList with ⟨e, _⟩ | ⟨i, e, hi, ho, _⟩
    · omega
    · unfold Lib.occAt at ho
      have hp := List.isPrefixOf_iff_prefix.1 ho
      have hl := hp.length_le
      rw [List.length_drop] at hl
      have hxs : x.data.toList.length = x.size := rfl
      have hys : y.data.toList.length = y.size := rfl
      refine ⟨i, by omega, bytes_ext ?_⟩
      rw [extract_list, Nat.add_sub_cancel_left, ← hys]
      exact (List.prefix_iff_eq_take.1 hp)
  · rintro ⟨i, hi, he⟩
    rcases Lib.index_spec x.data.toList y.data.toList with ⟨e, hno⟩ | ⟨i, e, _⟩
    · exfalso
      have hxs : x.data.toList.length = x.size := rfl
      have := hno i (by omega)
      unfold Lib.occAt at this
      have hp : y.data.toList <+: x.data.toList.drop i := by
        have h2 := congrArg (fun b : ByteArray => b.data.toList) he
        rw [extract_list, Nat.add_sub_cancel_left] at h2
        rw [h2]
        exact List.take_prefix _ _
      rw [List.isPrefixOf_iff_prefix.2 hp] at this
      cases this
    · omega
theorem ct_facs (x y : ByteArray) : ctB x y = true ↔ y ∈ facs x y.size := by rw [ct_iff, mem_facs]

/-- Of the first so many letters, how many go on. -/
def cntB (x : ByteArray) (r : Bool) (f : ByteArray) : Nat → Nat
  | 0 => 0
  | c + 1 => cntB x r f c + (if ctB x (joinB r f (lt1 c)) = true then 1 else 0)
theorem cntB_le (x : ByteArray) (r : Bool) (f : ByteArray) : ∀ n, cntB x r f n ≤ n
  | 0 => Nat.le_refl _
  | n + 1 => by have := cntB_le x r f n; rw [cntB]; split <;> omega
theorem cntB_one (x : ByteArray) (r : Bool) (f : ByteArray) : ∀ n c, c < n → ctB x (joinB r f (lt1 c)) = true → 1 ≤ cntB x r f n
  | n + 1, c, hc, h => by
    rw [cntB]
    by_cases e : c = n
    · subst e; rw [if_pos h]; omega
    · have := cntB_one x r f n c (by omega) h; omega
theorem cntB_two (x : ByteArray) (r : Bool) (f : ByteArray) : ∀ n c d, c < d → d < n → ctB x (joinB r f (lt1 c)) = true → ctB x (joinB r f (lt1 d)) = true → 2 ≤ cntB x r f n
  | n + 1, c, d, hcd, hd, h1, h2 => by
    rw [cntB]
    by_cases e : d = n
    · subst e; rw [if_pos h2]; have := cntB_one x r f d c hcd h1; omega
    · have := cntB_two x r f n c d hcd (by omega) h1 h2; omega
theorem cntB_hit (x : ByteArray) (r : Bool) (f : ByteArray) : ∀ n, 1 ≤ cntB x r f n → ∃ c, c < n ∧ ctB x (joinB r f (lt1 c)) = true
  | 0, h => by rw [cntB] at h; omega
  | n + 1, h => by
    rw [cntB] at h
    by_cases e : ctB x (joinB r f (lt1 n)) = true
    · exact ⟨n, by omega, e⟩
    · rw [if_neg e] at h
      obtain ⟨c, hc, hh⟩ := cntB_hit x r f n (by omega)
      exact ⟨c, by omega, hh⟩
theorem cntB_hits (x : ByteArray) (r : Bool) (f : ByteArray) : ∀ n, 2 ≤ cntB x r f n → ∃ c d, c < d ∧ d < n ∧ ctB x (joinB r f (lt1 c)) = true ∧ ctB x (joinB r f (lt1 d)) = true
  | 0, h => by rw [cntB] at h; omega
  | n + 1, h => by
    rw [cntB] at h
    by_cases e : ctB x (joinB r f (lt1 n)) = true
    · rw [if_pos e] at h
      obtain ⟨c, hc, hh⟩ := cntB_hit x r f n (by omega)
      exact ⟨c, n, hc, by omega, hh, e⟩
    · rw [if_neg e] at h
      obtain ⟨c, d, h1, h2, h3, h4⟩ := cntB_hits x r f n (by omega)
      exact ⟨c, d, h1, by omega, h3, h4⟩
def spB (x : ByteArray) (r : Bool) (f : ByteArray) : Bool := decide (2 ≤ cntB x r f 5)

/-- A longer factor without its letter. -/
def ownB (r : Bool) (m : Nat) (f : ByteArray) : ByteArray := if r then f.extract 0 m else f.extract 1 (m + 1)
theorem join_size (r : Bool) (f t : ByteArray) : (joinB r f t).size = f.size + t.size := by unfold joinB; split <;> rw [ByteArray.size_append] <;> omega
theorem own_join (r : Bool) (f : ByteArray) (c : Nat) : ownB r f.size (joinB r f (lt1 c)) = f := by
  apply bytes_ext
  cases r
  · show ((lt1 c ++ f).extract 1 (f.size + 1)).data.toList = _
    rw [extract_list]
    have : (lt1 c ++ f).data.toList = letB (c : Int) :: f.data.toList := by rw [ByteArray.data_append]; simp [lt1]
    rw [this]
    have hs : f.data.toList.length = f.size := rfl
    rw [List.drop_succ_cons, List.drop_zero, Nat.add_sub_cancel, ← hs, List.take_length]
  · show ((f ++ lt1 c).extract 0 f.size).data.toList = _
    rw [extract_list]
    have : (f ++ lt1 c).data.toList = f.data.toList ++ [letB (c : Int)] := by rw [ByteArray.data_append]; simp [lt1]
    rw [this]
    have hs : f.data.toList.length = f.size := rfl
    rw [List.drop_zero, Nat.sub_zero, ← hs, List.take_left]
theorem join_own (r : Bool) (m : Nat) (y : ByteArray) (h : y.size = m + 1) : y = joinB r (ownB r m y) (if r then y.extract m (m + 1) else y.extract 0 1) := by
  cases r
  · show y = y.extract 0 1 ++ y.extract 1 (m + 1)
    rw [ByteArray.extract_append_extract]
    simp [← h]
  · show y = y.extract 0 m ++ y.extract m (m + 1)
    rw [ByteArray.extract_append_extract]
    simp [← h]
theorem letter_lt1 {y : ByteArray} (h : IsW y) (h1 : y.size = 1) : ∃ c, c < 5 ∧ y = lt1 c := by
  have hb := h.2 0 (by omega)
  refine ⟨(y[0]'(by omega)).toNat - 97, by omega, bytes_ext ?_⟩
  have hl : y.data.toList.length = 1 := h1
  obtain ⟨b, hbb⟩ := List.length_eq_one_iff.1 hl
  have h0 : y[0]'(by omega) = b := by
    have : y.data.toList[0]'(by omega) = b := by simp [hbb]
    exact this
  rw [hbb, h0]
  show [b] = [letB _]
  congr 1
  rw [h0] at hb
  unfold letB
  apply UInt8.toNat_inj.1
  have := b.toNat_lt
  simp
  omega

/-- The words that stand twice among the first so many, ascending. -/
def dupB (O : List ByteArray) (i k : Nat) : Bool := (List.range k).any fun b => decide (O.getD b ByteArray.empty = O.getD i ByteArray.empty)
theorem dupB_succ (O : List ByteArray) (i k : Nat) : dupB O i (k + 1) = (dupB O i k || decide (O.getD k ByteArray.empty = O.getD i ByteArray.empty)) := by
  unfold dupB; rw [List.range_succ, List.any_append]; simp
theorem dupB_iff (O : List ByteArray) (i k : Nat) : dupB O i k = true ↔ ∃ b, b < k ∧ O.getD b ByteArray.empty = O.getD i ByteArray.empty := by
  unfold dupB
  rw [List.any_eq_true]
  constructor
  · rintro ⟨b, hb, e⟩
    exact ⟨b, List.mem_range.1 hb, of_decide_eq_true e⟩
  · rintro ⟨b, hb, e⟩
    exact ⟨b, List.mem_range.2 hb, decide_eq_true e⟩
def dupA (O : List ByteArray) : Nat → List ByteArray
  | 0 => []
  | i + 1 => if dupB O i i = true then insW (dupA O i) (O.getD i ByteArray.empty) else dupA O i
theorem dupA_asc (O : List ByteArray) : ∀ n, Asc (dupA O n)
  | 0 => List.Pairwise.nil
  | n + 1 => by rw [dupA]; split; exact asc_insW _ _ (dupA_asc O n); exact dupA_asc O n
theorem dupA_len (O : List ByteArray) : ∀ n, (dupA O n).length ≤ n
  | 0 => Nat.le_refl _
  | n + 1 => by
    have h := dupA_len O n
    have h2 := insW_len (dupA O n) (O.getD n ByteArray.empty)
    rw [dupA]; split <;> omega
theorem mem_dupA (O : List ByteArray) (z : ByteArray) : ∀ n, z ∈ dupA O n ↔ ∃ i, i < n ∧ dupB O i i = true ∧ O.getD i ByteArray.empty = z
  | 0 => by simp [dupA]
  | n + 1 => by
    rw [dupA]
    constructor
    · intro h
      split at h
      · rename_i hd
        rcases (mem_insW _ _ _).1 h with h | h
        · exact ⟨n, by omega, hd, h.symm⟩
        · obtain ⟨i, h1, h2, h3⟩ := (mem_dupA O z n).1 h
          exact ⟨i, by omega, h2, h3⟩
      · obtain ⟨i, h1, h2, h3⟩ := (mem_dupA O z n).1 h
        exact ⟨i, by omega, h2, h3⟩
    · rintro ⟨i, h1, h2, h3⟩
      by_cases e : i = n
      · subst e
        rw [if_pos h2]
        exact (mem_insW _ _ _).2 (.inl h3.symm)
      · have := (mem_dupA O z n).2 ⟨i, by omega, h2, h3⟩
        split
        · exact (mem_insW _ _ _).2 (.inr this)
        · exact this

def spF (x : ByteArray) (m : Nat) (r : Bool) : List ByteArray := (facs x m).filter (spB x r)
def ownL (x : ByteArray) (m : Nat) (r : Bool) : List ByteArray := (facs x (m + 1)).map (ownB r m)
theorem facs_asc (x : ByteArray) (m : Nat) : Asc (facs x m) := facK_asc x m _
theorem ownL_get (x : ByteArray) (m : Nat) (r : Bool) (i : Nat) (h : i < (facs x (m + 1)).length) : (ownL x m r).getD i ByteArray.empty = ownB r m ((facs x (m + 1))[i]'h) := by
  unfold ownL
  rw [List.getD_eq_getElem?_getD, List.getElem?_map, List.getElem?_eq_getElem h]
  rfl
theorem isW_ext {x : ByteArray} (h : IsW x) (a b : Nat) : IsW (x.extract a b) := by
  refine ⟨by have := h.size; simp; omega, fun i hi => ?_⟩
  rw [ByteArray.getElem_extract]
  exact h.2 _ _

theorem spF_eq {x : ByteArray} (h : IsW x) (m : Nat) (r : Bool) : spF x m r = dupA (ownL x m r) (facs x (m + 1)).length := by
  refine asc_ext _ _ (List.Pairwise.filter _ (facs_asc x m)) (dupA_asc _ _) fun z => ?_
  have hFa := facs_asc x (m + 1)
  rw [mem_dupA]
  unfold spF
  rw [List.mem_filter]
  constructor
  · rintro ⟨hz, hs⟩
    obtain ⟨i0, hi0, he0⟩ := mem_facs.1 hz
    have hzs : z.size = m := by rw [he0]; simp; omega
    obtain ⟨c, d, hcd, hd, h1, h2⟩ := cntB_hits x r z 5 (of_decide_eq_true hs)
    have f1 := (ct_facs x _).1 h1
    have f2 := (ct_facs x _).1 h2
    rw [join_size, lt1_size, hzs] at f1 f2
    obtain ⟨a, ha, ea⟩ := List.getElem_of_mem f1
    obtain ⟨b, hb, eb⟩ := List.getElem_of_mem f2
    have oa : (ownL x m r).getD a ByteArray.empty = z := by rw [ownL_get x m r a ha, ea, ← hzs, own_join]
    have ob : (ownL x m r).getD b ByteArray.empty = z := by rw [ownL_get x m r b hb, eb, ← hzs, own_join]
    have hab : a ≠ b := by
      intro e
      subst e
      have e2 := ea.symm.trans eb
      have hl := congrArg (fun y : ByteArray => y.data.toList) e2
      have key : letB (c : Int) = letB (d : Int) := by
        cases r
        · have : (lt1 c ++ z).data.toList = (lt1 d ++ z).data.toList := hl
          rw [ByteArray.data_append, ByteArray.data_append] at this
          simpa [lt1] using this
        · have : (z ++ lt1 c).data.toList = (z ++ lt1 d).data.toList := hl
          rw [ByteArray.data_append, ByteArray.data_append] at this
          simpa [lt1] using this
      have k1 := letB_nat (n := (c : Int)) (by omega) (by omega)
      have k2 := letB_nat (n := (d : Int)) (by omega) (by omega)
      rw [key, k2] at k1
      omega
    rcases Nat.lt_or_gt_of_ne hab with q | q
    · exact ⟨b, hb, (dupB_iff _ _ _).2 ⟨a, q, by rw [oa, ob]⟩, ob⟩
    · exact ⟨a, ha, (dupB_iff _ _ _).2 ⟨b, q, by rw [oa, ob]⟩, oa⟩
  · rintro ⟨i, hi, hd, hz⟩
    obtain ⟨b, hb, heq⟩ := (dupB_iff _ _ _).1 hd
    have hbl : b < (facs x (m + 1)).length := by omega
    rw [hz] at heq
    rw [ownL_get x m r i hi] at hz
    rw [ownL_get x m r b hbl] at heq
    have hne : (facs x (m + 1))[b]'hbl ≠ (facs x (m + 1))[i]'hi := by
      intro e
      have := List.pairwise_iff_getElem.1 hFa b i hbl hi hb
      rw [e] at this
      exact wlt_irrefl _ this
    have part : ∀ y ∈ facs x (m + 1), ownB r m y = z → z ∈ facs x m ∧ ∃ c, c < 5 ∧ y = joinB r z (lt1 c) ∧ ctB x (joinB r z (lt1 c)) = true := by
      intro y hy hyz
      obtain ⟨p, hp, rfl⟩ := mem_facs.1 hy
      have hys : (x.extract p (p + (m + 1))).size = m + 1 := by simp; omega
      have hj := join_own r m _ hys
      rw [hyz] at hj
      have hl : ∃ c, c < 5 ∧ (if r then (x.extract p (p + (m + 1))).extract m (m + 1) else (x.extract p (p + (m + 1))).extract 0 1) = lt1 c := by
        cases r
        · exact letter_lt1 (isW_ext (isW_ext h _ _) _ _) (by simp; omega)
        · exact letter_lt1 (isW_ext (isW_ext h _ _) _ _) (by simp; omega)
      obtain ⟨c, hc, hcl⟩ := hl
      rw [hcl] at hj
      refine ⟨?_, c, hc, hj, ?_⟩
      · rw [← hyz]
        refine mem_facs.2 ?_
        cases r
        · refine ⟨p + 1, by omega, ?_⟩
          show (x.extract p (p + (m + 1))).extract 1 (m + 1) = _
          rw [ByteArray.extract_extract]
          congr 1
          omega
        · refine ⟨p, by omega, ?_⟩
          show (x.extract p (p + (m + 1))).extract 0 m = _
          rw [ByteArray.extract_extract]
          congr 1
          omega
      · rw [← hj]
        exact (ct_facs x _).2 (by rw [hys]; exact hy)
    obtain ⟨zf, c, hc, e1, t1⟩ := part _ (List.getElem_mem hi) hz
    obtain ⟨_, d, hd5, e2, t2⟩ := part _ (List.getElem_mem hbl) heq
    refine ⟨zf, decide_eq_true ?_⟩
    have hcd : c ≠ d := fun e => hne (by rw [e1, e2, e])
    rcases Nat.lt_or_gt_of_ne hcd with q | q
    · exact cntB_two x r z 5 c d q hd5 t1 t2
    · exact cntB_two x r z 5 d c q hc t2 t1

end Go.Proofs.YtbhgghajbdlfkabGreat
