/- Runs sorted: the library's SortFunc at a slice of runs that the call made. -/
import Derived.Test.YtddfdciohnabbabRunE
import Derived.Test.YtddfdciohnabbabSrtf
import Derived.Shelf.SlSortCmp.WholeK
import Derived.Shelf.SlSortCmp.NoneTotal
namespace Go.Proofs.Ytddfdciohnabbab
set_option linter.unusedVariables false
set_option linter.unusedSimpArgs false
open Go.RowKit Go.Sort Go.Proofs

theorem sortT (B : Nat) (v : Value) (L : List Tr) (w : World) (h : OwnT w B v L) (hl : L.length ≤ 100000) :
    Calls Try.prog 113 #[v, .func (.func 114) #[] #[]] w fun e w' => e = .returned (.tuple #[]) ∧ (∃ L', L'.Perm L ∧ L'.Pairwise (fun a b => ¬ ltT b a) ∧ OwnT w' B v L') ∧ w.grownBy w' v.ownBlock := by
  by_cases h0 : L = []
  · subst h0
    obtain ⟨a1, c1, rfl⟩ : ∃ a c, v = .slice a 0 c := by
      rcases h.2 with ⟨rfl, e0⟩ | ⟨g, cap, cur, rfl, h'⟩
      · exact ⟨_, _, rfl⟩
      · exact ⟨_, _, rfl⟩
    refine Calls.mono (AnyF.slices_SortFunc_none Try.sortRuns a1 c1 _ w) ?_
    rintro e w' ⟨rfl, rfl⟩
    exact ⟨rfl, ⟨[], List.Perm.refl _, List.Pairwise.nil, h⟩, grown_refl _ _⟩
  · have hn : 0 < L.length := List.length_pos_iff.2 h0
    rcases h.2 with ⟨rfl, e0⟩ | ⟨g, cap, cur, rfl, hbase, hb, h1, h2, h3, h4⟩
    · omega
    have hlt := flatT_len L
    have h4' : cur.toList.take (flatT L).length = flatT L := by rw [hlt]; exact h4
    have hH : HoldsK encT 3 w g 0 L.toArray := by
      unfold HoldsK
      rw [flatK_flatT]
      exact holds_of_vals hb h4'
    have eg : ∀ args w, (callFunc 114 args).run Try.prog w = .ok (.enter 114 args) w := enters_of Try.func114 (by kernel_rfl) rfl
    have hcon := AnyQ.slices_SortFunc Try.sortRuns 3 Try.isAgg113 Try.sizeOf113 encT encT_len encT_one cmpT swoT 114 #[] g 0 cap L.toArray w eg (compare_lays g 0 _ w) hH (Array.getElem?_eq_some_iff.1 hb).1 (by simp; omega)
    refine Calls.mono hcon ?_
    rintro e w' ⟨rfl, d', n, os, hp, hs, rfl⟩
    have hps := hp.1
    have hpp := hp.2.2
    have e0 : L.toArray.size = L.length := by simp
    have e1 : d'.size = L.length := by rw [hps]; simp
    refine ⟨rfl, ⟨d'.toList, ?_, ?_, ?_⟩, ?_⟩
    · rw [e0] at hpp
      rw [show d'.extract 0 L.length = d' from by rw [← e1]; exact Array.extract_size, show L.toArray.extract 0 L.length = L.toArray from by rw [← e0]; exact Array.extract_size] at hpp
      simpa using hpp
    · rw [List.pairwise_iff_getElem]
      intro i j hi hj hij
      have hi' : i < d'.size := by simpa using hi
      have hj' : j < d'.size := by simpa using hj
      have := hs i j (Nat.zero_le _) hij (by rw [e0]; omega)
      rw [getElem!_pos d' j hj', getElem!_pos d' i hi'] at this
      have k := (cmpT_no _ _).1 this
      simpa using k
    · have hl' : (flatT d'.toList).length = L.length * 3 := by rw [flatT_len]; simp [e1]
      have hw : sortWorldK encT 3 w g 0 n d' os = grow (putRow id (Sort.ahead w n) g 0 (flatT d'.toList).toArray) os := by
        unfold sortWorldK putRowK
        rw [flatK_flatT]
      rw [hw]
      unfold OwnT
      have e2 : d'.toList.length = L.length := by simp [e1]
      rw [e2]
      refine ⟨hl', .inr ⟨g, cap, _, rfl, hbase, heap_putV _ hb, h1, h2, by simp [putCells, h3], ?_⟩⟩
      have hk := take_putV cur (flatT d'.toList) (by rw [hl', ← hlt]; have := congrArg List.length h4'; simp at this; omega)
      rw [hl'] at hk
      exact hk
    · have hw : sortWorldK encT 3 w g 0 n d' os = grow (putRow id (Sort.ahead w n) g 0 (flatT d'.toList).toArray) os := by
        unfold sortWorldK putRowK
        rw [flatK_flatT]
      rw [hw]
      exact grownBy_putV _

end Go.Proofs.Ytddfdciohnabbab
