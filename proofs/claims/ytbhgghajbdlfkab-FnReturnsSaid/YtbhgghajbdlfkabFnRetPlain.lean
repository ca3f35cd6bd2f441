/- Plain facts: what return words, gaps, windows, antipowers and common factors have to do with one another. -/
import Derived.Test.YtbhgghajbdlfkabLcfPlain
import Derived.Test.YtbhgghajbdlfkabWinPlain
import Derived.Test.YtbhgghajbdlfkabAntiPlain
namespace Go.Proofs.Ytbhgghajbdlfkab
set_option linter.unusedVariables false
set_option linter.unusedSimpArgs false
open Go.RowKit

theorem IsW.cut {x : ByteArray} (h : IsW x) (a b : Nat) : IsW (x.extract a b) := by
  have h1 := h.size
  refine ⟨by simp; omega, fun i hi => ?_⟩
  have hi2 : i < b - a ∧ a + i < x.size := by simp at hi; omega
  have e : (x.extract a b)[i]'hi = x[a + i]'hi2.2 := by simp [ByteArray.getElem_extract]
  rw [e]
  exact h.2 _ _

theorem gapsOf_sum : ∀ (L : List Int) (h : 0 < L.length), (gapsOf L).sum = L[L.length - 1]'(by omega) - L[0]
  | [a], _ => by simp [gapsOf]
  | a :: b :: r, _ => by
    have := gapsOf_sum (b :: r) (by simp)
    rw [gapsOf, List.sum_cons, this]
    simp only [List.length_cons, Nat.add_sub_cancel, List.getElem_cons_zero, List.getElem_cons_succ]
    omega
theorem rets_good {x u : ByteArray} (h : (retsR x u).2 = 0) : ∃ (P : List Int) (hP : 2 ≤ P.length), placesR x u = (P, 0) ∧ gapsR x u = (gapsOf P, 0) ∧ P.length ≤ 61 ∧ (retsR x u).1.length ≤ (gapsOf P).length ∧ (gapsOf P).sum = P[P.length - 1]'(by omega) - P[0]'(by omega) ∧ (∀ z ∈ gapsOf P, 0 ≤ z ∧ z ≤ 60) ∧ (∀ r ∈ (retsR x u).1, (r.size : Int) ∈ gapsOf P) ∧ (∀ z ∈ P, 0 ≤ z ∧ z ≤ 60) := by
  by_cases hw : IsW x ∧ IsW u
  · by_cases h0 : u.size = 0
    · rw [retsR_empty hw h0] at h; cases h
    · by_cases h2 : (posOf x u (List.range (x.size + 1 - u.size))).length < 2
      · rw [retsR_none hw h0 h2] at h; cases h
      · rw [retsR_ok hw h0 h2, gapsR_ok hw h0 (by omega), placesR_ok hw]
        have hl := posOf_len60 (u := u) hw.1
        have hb := posOf_bound x u (x.size + 1 - u.size)
        have hx := hw.1.size
        obtain ⟨P, hP⟩ : ∃ P, P = posOf x u (List.range (x.size + 1 - u.size)) := ⟨_, rfl⟩
        have hs : ∀ i (h : i + 1 < P.length), 0 ≤ P[i]'(by omega) ∧ P[i]'(by omega) < P[i + 1]'h ∧ P[i + 1]'h < ((x.size + 1 - u.size : Nat) : Int) := by
          subst hP
          exact fun i h => posOf_step h
        rw [← hP] at h2 hl hb ⊢
        clear hP
        have hi := insA_len (retW x P)
        rw [retW_len] at hi
        refine ⟨P, by omega, rfl, rfl, hl, by show (insA (retW x P)).length ≤ _; rw [gapsOf_len]; exact hi, gapsOf_sum P (by omega), fun z hz => ?_, fun r hr => ?_, fun z hz => by have := hb z hz; omega⟩
        · obtain ⟨i, hi2, rfl⟩ := List.getElem_of_mem hz
          rw [gapsOf_len] at hi2
          rw [gapsOf_get P i (by omega)]
          have := hs i (by omega)
          omega
        · have hr2 := (mem_insA _ _).1 hr
          obtain ⟨i, hi2, rfl⟩ := List.getElem_of_mem hr2
          rw [retW_len] at hi2
          rw [retW_get x P i (by omega)]
          have := hs i (by omega)
          have e : (((x.extract P[i].toNat P[i + 1].toNat).size : Nat) : Int) = P[i + 1] - P[i] := by simp; omega
          rw [e, ← gapsOf_get P i (by omega)]
          exact List.getElem_mem _
  · rw [retsR_bad hw] at h; cases h
theorem win_good {y : ByteArray} {m : Int} (h : (winR y m).2 = 0) : ∃ (n k : Nat) (A L : List ByteArray), m = n ∧ (winR y m).1 = k ∧ factorsR y m = (A, 0) ∧ factorsR y (winR y m).1 = (L, 0) ∧ n ≤ k ∧ k ≤ y.size ∧ y.size ≤ 60 ∧ A.length ≤ 61 ∧ L.length ≤ 61 ∧ ∀ f ∈ L, f.size ≤ 60 ∧ factorsR f m = (A, 0) := by
  by_cases hw : IsW y
  · have hy := hw.size
    by_cases ho : m < 0 ∨ 60 < m
    · rw [winR_out hw ho] at h; cases h
    · obtain ⟨n, rfl⟩ := Int.eq_ofNat_of_zero_le (show 0 ≤ m by omega)
      by_cases hn : y.size < n
      · rw [winR_none hw (by omega) hn] at h; cases h
      · rw [winR_ok hw (by omega) (by omega)]
        obtain ⟨N, h1, h2, h3, h4, _⟩ := win_least y n (by omega)
        refine ⟨n, N, facs y n, facs y N, rfl, h1, factorsR_ok hw (by omega), ?_, h2, h3, hy, ?_, ?_, fun f hf => ?_⟩
        · show factorsR y (winOf y n (facs y n)) = _
          rw [h1]
          exact factorsR_ok hw (by omega)
        · have := facs_len y n; omega
        · have := facs_len y N; omega
        · unfold facs at hf
          obtain ⟨i, hi, rfl⟩ := (mem_facK y N f _).1 hf
          have hs : (y.extract i (i + N)).size = N := by simp; omega
          refine ⟨by omega, ?_⟩
          rw [factorsR_ok (hw.cut _ _) (by omega)]
          congr 1
          refine asc_ext _ _ (facK_asc _ _ _) (facK_asc _ _ _) fun z => ?_
          rw [mem_facK]
          constructor
          · rintro ⟨p, hp, rfl⟩
            rw [hs] at hp
            unfold facs
            rw [mem_facK]
            refine ⟨i + p, by omega, ?_⟩
            rw [ByteArray.extract_extract, show min (i + (p + n)) (i + N) = i + p + n by omega]
          · intro hz
            have hsz := (facs_pos z hz).1
            have hat := ((wholeB_iff y N (facs y n)).1 h4) z hz i (by omega)
            obtain ⟨p, p1, p2, p3⟩ := (hasAt_iff y N z i (by omega)).1 hat
            refine ⟨p - i, by rw [hs]; omega, ?_⟩
            rw [ByteArray.extract_extract, show i + (p - i) = p by omega, show min (i + (p - i + n)) (i + N) = p + z.size by omega]
            exact p3.symm
  · rw [winR_bad hw] at h; cases h
theorem antiB_eq (x : ByteArray) (m : Nat) : ∀ n, (antiB x m n).2 = 0 ∨ (antiB x m n).2 = antiK x m (antiB x m n).1
  | 0 => .inl rfl
  | n + 1 => by
    rw [antiB]
    split
    · exact .inr rfl
    · exact antiB_eq x m n
theorem antiL_spec (x : ByteArray) (m : Nat) : ∀ (n i : Nat) (seen : List ByteArray), ∃ r, antiL x m n i seen = seen ++ r ∧ (∀ j (h : j < r.length), r[j]'h = x.extract (i + j * m) (i + j * m + m) ∧ i + j * m + m ≤ x.size) ∧ (seen.Nodup → (seen ++ r).Nodup)
  | 0, i, seen => ⟨[], by rw [antiL, List.append_nil], fun j h => by simp at h, fun h => by rw [List.append_nil]; exact h⟩
  | n + 1, i, seen => by
    rw [antiL]
    split
    · rename_i hc
      obtain ⟨r, h1, h2, h3⟩ := antiL_spec x m n (i + m) (seen ++ [x.extract i (i + m)])
      refine ⟨x.extract i (i + m) :: r, by rw [h1, List.append_assoc]; rfl, fun j hj => ?_, fun hs => ?_⟩
      · cases j with
        | zero => simp only [List.getElem_cons_zero, Nat.zero_mul, Nat.add_zero]; exact ⟨trivial, hc.1⟩
        | succ j =>
          have := h2 j (by simpa using hj)
          rw [List.getElem_cons_succ, show i + (j + 1) * m = i + m + j * m by rw [Nat.succ_mul]; omega]
          exact this
      · have := h3 (by
          rw [List.nodup_append]
          refine ⟨hs, by simp, fun a ha b hb e => ?_⟩
          simp at hb
          subst hb
          subst e
          have := (inL_iff (x.extract i (i + m)) seen).2 ha
          rw [hc.2] at this
          cases this)
        rw [List.append_assoc] at this
        exact this
    · exact ⟨[], by rw [List.append_nil], fun j h => by simp at h, fun h => by rw [List.append_nil]; exact h⟩
theorem la_good {z : ByteArray} {m : Int} (h : (laR z m).2.2 = 0) : ∃ (n i k : Nat) (r : List ByteArray), m = n ∧ (laR z m).1 = i ∧ (laR z m).2.1 = k ∧ n ≤ 60 ∧ i ≤ 60 ∧ k ≤ 61 ∧ r.length = k ∧ r.Nodup ∧ z.size ≤ 60 ∧ ∀ j (hj : j < r.length), i + j * n + n ≤ z.size ∧ factR z ((i + j * n : Nat) : Int) m = (r[j]'hj, 0) := by
  by_cases hw : IsW z
  · have hz := hw.size
    by_cases ho : m < 1 ∨ 60 < m
    · rw [laR_out hw ho] at h; cases h
    · obtain ⟨n, rfl⟩ := Int.eq_ofNat_of_zero_le (show 0 ≤ m by omega)
      by_cases hn : z.size < n
      · rw [laR_none hw (by omega) hn] at h; cases h
      · rw [laR_ok hw (by omega) (by omega)]
        have hb := antiB_le z n (z.size + 1 - n)
        have he := antiB_eq z n (z.size + 1 - n)
        generalize antiB z n (z.size + 1 - n) = q at *
        obtain ⟨i, k⟩ := q
        dsimp only at *
        rcases he with he | he
        · refine ⟨n, i, k, [], rfl, rfl, rfl, by omega, by omega, hb.2, by rw [he]; rfl, List.nodup_nil, hz, fun j hj => by simp at hj⟩
        · obtain ⟨r, h1, h2, h3⟩ := antiL_spec z n 61 i []
          rw [List.nil_append] at h1 h3
          refine ⟨n, i, k, r, rfl, rfl, rfl, by omega, by omega, hb.2, by rw [he]; unfold antiK; rw [h1], h3 List.nodup_nil, hz, fun j hj => ?_⟩
          obtain ⟨e1, e2⟩ := h2 j hj
          exact ⟨e2, by rw [factR_ok hw e2, e1]⟩
  · rw [laR_bad hw] at h; cases h
theorem lcf_good {a b : ByteArray} (h : (lcfR a b).2 = 0) : ∃ P Q, placesR a (lcfR a b).1 = (P, 0) ∧ placesR b (lcfR a b).1 = (Q, 0) ∧ 0 < P.length ∧ 0 < Q.length ∧ (lcfR a b).1.size ≤ 60 := by
  by_cases hw : IsW a ∧ IsW b
  · rw [lcfR_ok hw]
    obtain ⟨i, j, h1, h2, h3, h4⟩ := (bestW_best a b).1
    have ha := hw.1.size
    dsimp only
    generalize bestW a b (a.size + 1) = f at *
    have hf : IsW f := by rw [← h3]; exact hw.1.cut _ _
    refine ⟨_, _, placesR_ok ⟨hw.1, hf⟩, placesR_ok ⟨hw.2, hf⟩, ?_, ?_, by omega⟩
    · exact List.length_pos_of_mem ((mem_posOf a f i).2 ⟨i, rfl, h1, h3⟩)
    · exact List.length_pos_of_mem ((mem_posOf b f j).2 ⟨j, rfl, h2, h4⟩)
  · rw [lcfR_bad hw] at h; cases h

end Go.Proofs.Ytbhgghajbdlfkab
