/- Ascending words, one more put in: the model. -/
import Derived.Test.YtfipbnognjepkaaGreatDoorStrs
import Derived.Test.YtfipbnognjepkaaGreatDoorPutPlain
import Derived.WalkLawsBesides
import Derived.Sort.Walk0
import Derived.Laws.Cover1
namespace Go.Proofs.YtfipbnognjepkaaGreatDoor
set_option linter.unusedVariables false
set_option linter.unusedSimpArgs false
open Go.RowKit

theorem lt_facts {a b : ByteArray} (h : wlt a b) : Op.bytesLess a.toList b.toList = true ∧ (a.toList == b.toList) = false := by
  refine ⟨by rw [Proofs.bytesLess_eq, Lib.toList_data, Lib.toList_data]; exact decide_eq_true h, ?_⟩
  rw [Lib.toList_data, Lib.toList_data, beq_eq_false_iff_ne]
  intro e
  unfold wlt at h
  rw [e] at h
  exact List.lt_irrefl _ h
theorem gt_facts {a b : ByteArray} (h : wlt b a) : Op.bytesLess a.toList b.toList = false ∧ (a.toList == b.toList) = false := by
  have h1 : ¬ wlt a b := fun k => wlt_irrefl _ (wlt_trans h k)
  refine ⟨by rw [Proofs.bytesLess_eq, Lib.toList_data, Lib.toList_data]; exact decide_eq_false h1, ?_⟩
  rw [Lib.toList_data, Lib.toList_data, beq_eq_false_iff_ne]
  intro e
  unfold wlt at h
  rw [e] at h
  exact List.lt_irrefl _ h
theorem eq_facts (a : ByteArray) : Op.bytesLess a.toList a.toList = false ∧ (a.toList == a.toList) = true := by
  have h1 : ¬ wlt a a := wlt_irrefl a
  exact ⟨by rw [Proofs.bytesLess_eq, Lib.toList_data]; exact decide_eq_false h1, beq_self_eq_true _⟩

/-- Where the word goes: the words before are less, those from there on are greater. -/
theorem insW_at (L : List ByteArray) (x : ByteArray) (a : Nat) (ha : a ≤ L.length) (hs : Asc L) (hg : ∀ j (h : j < L.length), a ≤ j → wlt x (L[j]'h)) (hl : ∀ j (h : j < L.length), j + 1 = a → wlt (L[j]'h) x) : insW L x = L.take a ++ x :: L.drop a := by
  have := insW_split (L.take a) (L.drop a) x ?_ ?_
  · rwa [List.take_append_drop] at this
  · intro y hy
    obtain ⟨j, hj, rfl⟩ := List.getElem_of_mem hy
    rw [List.length_take] at hj
    rw [List.getElem_take]
    by_cases e : j + 1 = a
    · exact hl j (by omega) e
    · have h2 := hl (a - 1) (by omega) (by omega)
      have h3 : wlt (L[j]'(by omega)) (L[a - 1]'(by omega)) := List.pairwise_iff_getElem.1 hs j (a - 1) (by omega) (by omega) (by omega)
      exact wlt_trans h3 h2
  · intro y hy
    obtain ⟨j, hj, rfl⟩ := List.getElem_of_mem hy
    rw [List.length_drop] at hj
    rw [List.getElem_drop]
    exact hg _ (by omega) (by omega)

set_option maxRecDepth 100000 in
set_option maxHeartbeats 2000000 in
theorem l01Put_any (B g cap : Nat) (L : List ByteArray) (x : ByteArray) (w : World) (h : OwnS w B (.slice (some ⟨g, 0, none⟩) L.length cap) L) (hB0 : B ≤ w.heap.size) (hs : Asc L) (hl : L.length ≤ 4000) (hx : x.size ≤ 60) :
    Calls Tryz.prog 153 #[.slice (some ⟨g, 0, none⟩) L.length cap, .string x] w fun e w' => ∃ g' cap', e = .returned (.slice (some ⟨g', 0, none⟩) (insW L x).length cap') ∧ OwnS w' B (.slice (some ⟨g', 0, none⟩) (insW L x).length cap') (insW L x) ∧ Below w.heap.size w w' := by
  obtain ⟨i0, hi, hz0, hz1, hz2⟩ := info_parts infoStr
  have hf := own_forms h
  rcases hf with ⟨e, _⟩ | ⟨g1, cap1, e, hg0, hg, hcap, hm, hcell, hfroz⟩
  · cases e
  cases e
  have cell1 : ∀ j (hj : j < L.length), w.cell? ⟨g, j, none⟩ = some (.string (L[j]'hj)) := by intro j hj; rw [hcell j hj]; simp [hj]
  unfold maxLen at hm
  have C1 := Lib.hid cell1
  have HO := Lib.hid h
  have HS := Lib.hid hs
  clear cell1 hcell hfroz h hs
  go_enter Tryz.func153, Tryz.ntmps153
  go_wp2
  go_loopw [5] (fun i wr => ∃ a : Nat, a ≤ L.length ∧ i = .int .i64 a ∧ (∀ j (h : j < L.length), a ≤ j → wlt x (L[j]'h)) ∧ Below w.heap.size w wr)
    (fun i _ => (intOf i).toNat)
  case atStart => exact ⟨L.length, Nat.le_refl _, rfl, fun j h1 h2 => absurd h1 (by omega), Below.refl _ _⟩
  case round =>
    obtain ⟨a, ha, rfl, hgt, hB⟩ := hrel
    have GT := Lib.hid hgt
    have hbz := hB.size
    have TK : Hid (∀ W, Below w.heap.size w W → ∀ j u, ((L.take a).map Value.string)[j]? = some u → W.cell? ((⟨g, 0, none⟩ : Addr).add j) = some u) := by
      refine Lib.hid fun W hW j u hj => ?_
      obtain ⟨h1, rfl⟩ := List.getElem?_eq_some_iff.1 hj
      have h2 : j < a ∧ j < L.length := by simp at h1; omega
      rw [List.getElem_map, List.getElem_take]
      have e : ((⟨g, 0, none⟩ : Addr).add j) = ⟨g, j, none⟩ := by simp [Addr.add, eq_comm]
      rw [e, (bcell hW).1 g j hg]
      exact C1.out j h2.2
    have DR : Hid (∀ W, Below w.heap.size w W → ∀ j u, ((L.drop a).map Value.string)[j]? = some u → W.cell? ((⟨g, a, none⟩ : Addr).add j) = some u) := by
      refine Lib.hid fun W hW j u hj => ?_
      obtain ⟨h1, rfl⟩ := List.getElem?_eq_some_iff.1 hj
      have h2 : a + j < L.length := by simp at h1; omega
      rw [List.getElem_map, List.getElem_drop]
      have e : ((⟨g, a, none⟩ : Addr).add j) = ⟨g, a + j, none⟩ := by simp [Addr.add, eq_comm]
      rw [e, (bcell hW).1 g (a + j) hg]
      exact C1.out (a + j) h2
    by_cases h0 : a = 0
    · have h00 : ¬ ((0 : Int) < (a : Int)) := by omega
      have hin := Lib.hid (insW_at L x a ha HS.out hgt (fun j h1 h2 => absurd h2 (by omega)))
      clear hgt h0
      rcases Nat.lt_or_ge a cap with hca | hca
      · have hne : ¬ cap = a := by omega
        clear hca
        go_wp2_with (first | (at_builtin; refine wpList_append_own _ rfl _ _ 41 rfl w.heap.size 9 i0 (.string ⟨#[]⟩) 1 16 Tryz.underlying41 hi hz0 hz1 hz2 rfl (by decide) _ _ _ rfl hown2 ⟨g, a, none⟩ (L.length - a) _ ((L.drop a).map Value.string) rfl (by simp) (DR.out _ hB2) (by intro u hu; obtain ⟨y, _, rfl⟩ := List.mem_map.1 hu; rfl) (by unfold maxLen; omega) (by omega) (by first | omega | (simp; omega)) ?_; intro v3 w3 hown3 hgrow3 hnil3; clear hnil3; have hB3 := hB2.grown hgrow3 (by omega) (fun q hq => (hown2.lt q hq).1)) | (at_builtin; refine wpList_append_own _ rfl _ _ 41 rfl w.heap.size 9 i0 (.string ⟨#[]⟩) 1 16 Tryz.underlying41 hi hz0 hz1 hz2 rfl (by decide) _ _ _ rfl hown2 ⟨g, 0, none⟩ (L.length - a) _ ((L.drop a).map Value.string) rfl (by simp) (by intro j u hj; rw [List.drop_eq_nil_of_le (by omega)] at hj; simp at hj) (by intro u hu; obtain ⟨y, _, rfl⟩ := List.mem_map.1 hu; rfl) (by unfold maxLen; omega) (by omega) (by first | omega | (simp; omega)) ?_; intro v3 w3 hown3 hgrow3 hnil3; clear hnil3; have hB3 := hB2.grown hgrow3 (by omega) (fun q hq => (hown2.lt q hq).1)) | (at_builtin; refine wpList_append_own _ rfl _ _ 41 rfl w.heap.size 9 i0 (.string ⟨#[]⟩) 1 16 Tryz.underlying41 hi hz0 hz1 hz2 rfl (by decide) _ _ _ rfl (hown1.alloc _) ⟨_, 0, none⟩ 1 1 [.string x] rfl rfl (cell_new _ _ _) (by intro u hu; simp at hu; subst hu; rfl) (by unfold maxLen; omega) (by omega) (by first | omega | (simp; omega)) ?_; intro v2 w2 hown2 hgrow2 hnil2; clear hnil2; obtain ⟨g2, cap2, rfl⟩ : ∃ g2 cap2, v2 = .slice (some ⟨g2, 0, none⟩) (a + 1) cap2 := (by rcases own_forms hown2 with ⟨_, h0, _⟩ | ⟨g', c', e, _⟩; exact absurd h0 (by omega); exact ⟨g', c', e⟩); have hB2 := (hB1.alloc hbz1 (.cells #[.string x] 9)).grown hgrow2 (by simp; omega) (fun q hq => (hown1.lt q hq).1); have hbz2 := hB2.size) | (at_builtin; refine wpList_append_own _ rfl _ _ 41 rfl w.heap.size 9 i0 (.string ⟨#[]⟩) 1 16 Tryz.underlying41 hi hz0 hz1 hz2 rfl (by decide) _ _ _ rfl (World.ownsRow_lit wr #[] 0 hbz (by decide) (by simp)) ⟨g, 0, none⟩ a _ ((L.take a).map Value.string) rfl (by simp; omega) (TK.out _ (hB.alloc hbz _)) (by intro u hu; obtain ⟨y, _, rfl⟩ := List.mem_map.1 hu; rfl) (by unfold maxLen; omega) (by omega) (by first | omega | (simp; omega)) ?_; intro v1 w1 hown1 hgrow1 hnil1; clear hnil1; rw [Nat.zero_add, List.nil_append] at hown1; have hB1 := (hB.alloc hbz (.cells #[] 9)).grown hgrow1 (by simp; omega) (fun q hq => by cases hq; omega); have hbz1 := hB1.size))
        go_ret
        have he : 0 + 0 = 0 := rfl
        obtain ⟨g3, cap3, rfl⟩ : ∃ g3 cap3, v3 = .slice (some ⟨g3, 0, none⟩) (a + 1 + (L.length - a)) cap3 := (by rcases own_forms hown3 with ⟨_, h0, _⟩ | ⟨g', c', e, _⟩; exact absurd h0 (by omega); exact ⟨g', c', e⟩)
        have e1 := hin.out
        have e2 : (insW L x).length = a + 1 + (L.length - a) := by rw [e1]; simp; omega
        have e3 : (insW L x).map Value.string = (L.take a).map Value.string ++ [.string x] ++ (L.drop a).map Value.string := by rw [e1]; simp
        refine ⟨g3, cap3, by rw [e2]; rfl, ?_, hB3⟩
        unfold OwnS
        rw [e2, e3]
        exact own_base hown3 hB0
      · have hne : cap = a := by omega
        clear hca
        go_wp2_with (first | (at_builtin; refine wpList_append_own _ rfl _ _ 41 rfl w.heap.size 9 i0 (.string ⟨#[]⟩) 1 16 Tryz.underlying41 hi hz0 hz1 hz2 rfl (by decide) _ _ _ rfl hown2 ⟨g, a, none⟩ (L.length - a) _ ((L.drop a).map Value.string) rfl (by simp) (DR.out _ hB2) (by intro u hu; obtain ⟨y, _, rfl⟩ := List.mem_map.1 hu; rfl) (by unfold maxLen; omega) (by omega) (by first | omega | (simp; omega)) ?_; intro v3 w3 hown3 hgrow3 hnil3; clear hnil3; have hB3 := hB2.grown hgrow3 (by omega) (fun q hq => (hown2.lt q hq).1)) | (at_builtin; refine wpList_append_own _ rfl _ _ 41 rfl w.heap.size 9 i0 (.string ⟨#[]⟩) 1 16 Tryz.underlying41 hi hz0 hz1 hz2 rfl (by decide) _ _ _ rfl hown2 ⟨g, 0, none⟩ (L.length - a) _ ((L.drop a).map Value.string) rfl (by simp) (by intro j u hj; rw [List.drop_eq_nil_of_le (by omega)] at hj; simp at hj) (by intro u hu; obtain ⟨y, _, rfl⟩ := List.mem_map.1 hu; rfl) (by unfold maxLen; omega) (by omega) (by first | omega | (simp; omega)) ?_; intro v3 w3 hown3 hgrow3 hnil3; clear hnil3; have hB3 := hB2.grown hgrow3 (by omega) (fun q hq => (hown2.lt q hq).1)) | (at_builtin; refine wpList_append_own _ rfl _ _ 41 rfl w.heap.size 9 i0 (.string ⟨#[]⟩) 1 16 Tryz.underlying41 hi hz0 hz1 hz2 rfl (by decide) _ _ _ rfl (hown1.alloc _) ⟨_, 0, none⟩ 1 1 [.string x] rfl rfl (cell_new _ _ _) (by intro u hu; simp at hu; subst hu; rfl) (by unfold maxLen; omega) (by omega) (by first | omega | (simp; omega)) ?_; intro v2 w2 hown2 hgrow2 hnil2; clear hnil2; obtain ⟨g2, cap2, rfl⟩ : ∃ g2 cap2, v2 = .slice (some ⟨g2, 0, none⟩) (a + 1) cap2 := (by rcases own_forms hown2 with ⟨_, h0, _⟩ | ⟨g', c', e, _⟩; exact absurd h0 (by omega); exact ⟨g', c', e⟩); have hB2 := (hB1.alloc hbz1 (.cells #[.string x] 9)).grown hgrow2 (by simp; omega) (fun q hq => (hown1.lt q hq).1); have hbz2 := hB2.size) | (at_builtin; refine wpList_append_own _ rfl _ _ 41 rfl w.heap.size 9 i0 (.string ⟨#[]⟩) 1 16 Tryz.underlying41 hi hz0 hz1 hz2 rfl (by decide) _ _ _ rfl (World.ownsRow_lit wr #[] 0 hbz (by decide) (by simp)) ⟨g, 0, none⟩ a _ ((L.take a).map Value.string) rfl (by simp; omega) (TK.out _ (hB.alloc hbz _)) (by intro u hu; obtain ⟨y, _, rfl⟩ := List.mem_map.1 hu; rfl) (by unfold maxLen; omega) (by omega) (by first | omega | (simp; omega)) ?_; intro v1 w1 hown1 hgrow1 hnil1; clear hnil1; rw [Nat.zero_add, List.nil_append] at hown1; have hB1 := (hB.alloc hbz (.cells #[] 9)).grown hgrow1 (by simp; omega) (fun q hq => by cases hq; omega); have hbz1 := hB1.size))
        go_ret
        have he : 0 + 0 = 0 := rfl
        obtain ⟨g3, cap3, rfl⟩ : ∃ g3 cap3, v3 = .slice (some ⟨g3, 0, none⟩) (a + 1 + (L.length - a)) cap3 := (by rcases own_forms hown3 with ⟨_, h0, _⟩ | ⟨g', c', e, _⟩; exact absurd h0 (by omega); exact ⟨g', c', e⟩)
        have e1 := hin.out
        have e2 : (insW L x).length = a + 1 + (L.length - a) := by rw [e1]; simp; omega
        have e3 : (insW L x).map Value.string = (L.take a).map Value.string ++ [.string x] ++ (L.drop a).map Value.string := by rw [e1]; simp
        refine ⟨g3, cap3, by rw [e2]; rfl, ?_, hB3⟩
        unfold OwnS
        rw [e2, e3]
        exact own_base hown3 hB0
    · obtain ⟨b, rfl⟩ : ∃ b, a = b + 1 := ⟨a - 1, by omega⟩
      have hbl : b < L.length := by omega
      have k1 : wr.cell? ⟨g, b, none⟩ = some (.string (L[b]'hbl)) := by rw [(bcell hB).1 g b hg]; exact C1.out b hbl
      have hbc : b < cap := by omega
      clear h0
      by_cases q1 : wlt x (L[b]'hbl)
      · have hgt2 : ∀ j (h : j < L.length), b ≤ j → wlt x (L[j]'h) := by
          intro j h1 h2
          by_cases e : j = b
          · subst e; exact q1
          · exact hgt j h1 (by omega)
        have G2 := Lib.hid hgt2
        obtain ⟨f1, f2⟩ := gt_facts q1
        clear hgt hgt2 q1
        generalize L[b]'hbl = z at k1 f1 f2
        go_wp2
        go_roundw
        case rel => exact ⟨b, by omega, by go_num, G2.out, hB⟩
        case measure => simp [intOf]
      · by_cases q2 : x = L[b]'hbl
        · have hin := Lib.hid (insW_mem L x HS.out (q2 ▸ List.getElem_mem hbl))
          obtain ⟨f1, f2⟩ := eq_facts x
          rw [← q2] at k1
          clear hgt q1 q2
          go_wp2
          go_ret
          refine ⟨g, cap, by rw [hin.out]; rfl, ?_, hB⟩
          rw [hin.out]
          exact own_below HO.out hB
        · have q3 := wlt_tri q1 q2
          have hin := Lib.hid (insW_at L x (b + 1) ha HS.out hgt (fun j h1 h2 => by obtain rfl : j = b := (by omega); exact q3))
          obtain ⟨f1, f2⟩ := lt_facts q3
          clear hgt q1 q2 q3
          generalize L[b]'hbl = z at k1 f1 f2
          rcases Nat.lt_or_ge (b + 1) cap with hca | hca
          · have hne : ¬ cap = (b + 1) := by omega
            clear hca
            go_wp2_with (first | (at_builtin; refine wpList_append_own _ rfl _ _ 41 rfl w.heap.size 9 i0 (.string ⟨#[]⟩) 1 16 Tryz.underlying41 hi hz0 hz1 hz2 rfl (by decide) _ _ _ rfl hown2 ⟨g, (b + 1), none⟩ (L.length - (b + 1)) _ ((L.drop (b + 1)).map Value.string) rfl (by simp) (DR.out _ hB2) (by intro u hu; obtain ⟨y, _, rfl⟩ := List.mem_map.1 hu; rfl) (by unfold maxLen; omega) (by omega) (by first | omega | (simp; omega)) ?_; intro v3 w3 hown3 hgrow3 hnil3; clear hnil3; have hB3 := hB2.grown hgrow3 (by omega) (fun q hq => (hown2.lt q hq).1)) | (at_builtin; refine wpList_append_own _ rfl _ _ 41 rfl w.heap.size 9 i0 (.string ⟨#[]⟩) 1 16 Tryz.underlying41 hi hz0 hz1 hz2 rfl (by decide) _ _ _ rfl hown2 ⟨g, 0, none⟩ (L.length - (b + 1)) _ ((L.drop (b + 1)).map Value.string) rfl (by simp) (by intro j u hj; rw [List.drop_eq_nil_of_le (by omega)] at hj; simp at hj) (by intro u hu; obtain ⟨y, _, rfl⟩ := List.mem_map.1 hu; rfl) (by unfold maxLen; omega) (by omega) (by first | omega | (simp; omega)) ?_; intro v3 w3 hown3 hgrow3 hnil3; clear hnil3; have hB3 := hB2.grown hgrow3 (by omega) (fun q hq => (hown2.lt q hq).1)) | (at_builtin; refine wpList_append_own _ rfl _ _ 41 rfl w.heap.size 9 i0 (.string ⟨#[]⟩) 1 16 Tryz.underlying41 hi hz0 hz1 hz2 rfl (by decide) _ _ _ rfl (hown1.alloc _) ⟨_, 0, none⟩ 1 1 [.string x] rfl rfl (cell_new _ _ _) (by intro u hu; simp at hu; subst hu; rfl) (by unfold maxLen; omega) (by omega) (by first | omega | (simp; omega)) ?_; intro v2 w2 hown2 hgrow2 hnil2; clear hnil2; obtain ⟨g2, cap2, rfl⟩ : ∃ g2 cap2, v2 = .slice (some ⟨g2, 0, none⟩) ((b + 1) + 1) cap2 := (by rcases own_forms hown2 with ⟨_, h0, _⟩ | ⟨g', c', e, _⟩; exact absurd h0 (by omega); exact ⟨g', c', e⟩); have hB2 := (hB1.alloc hbz1 (.cells #[.string x] 9)).grown hgrow2 (by simp; omega) (fun q hq => (hown1.lt q hq).1); have hbz2 := hB2.size) | (at_builtin; refine wpList_append_own _ rfl _ _ 41 rfl w.heap.size 9 i0 (.string ⟨#[]⟩) 1 16 Tryz.underlying41 hi hz0 hz1 hz2 rfl (by decide) _ _ _ rfl (World.ownsRow_lit wr #[] 0 hbz (by decide) (by simp)) ⟨g, 0, none⟩ (b + 1) _ ((L.take (b + 1)).map Value.string) rfl (by simp; omega) (TK.out _ (hB.alloc hbz _)) (by intro u hu; obtain ⟨y, _, rfl⟩ := List.mem_map.1 hu; rfl) (by unfold maxLen; omega) (by omega) (by first | omega | (simp; omega)) ?_; intro v1 w1 hown1 hgrow1 hnil1; clear hnil1; rw [Nat.zero_add, List.nil_append] at hown1; have hB1 := (hB.alloc hbz (.cells #[] 9)).grown hgrow1 (by simp; omega) (fun q hq => by cases hq; omega); have hbz1 := hB1.size))
            go_ret
            have he : 0 + 0 = 0 := rfl
            obtain ⟨g3, cap3, rfl⟩ : ∃ g3 cap3, v3 = .slice (some ⟨g3, 0, none⟩) ((b + 1) + 1 + (L.length - (b + 1))) cap3 := (by rcases own_forms hown3 with ⟨_, h0, _⟩ | ⟨g', c', e, _⟩; exact absurd h0 (by omega); exact ⟨g', c', e⟩)
            have e1 := hin.out
            have e2 : (insW L x).length = (b + 1) + 1 + (L.length - (b + 1)) := by rw [e1]; simp; omega
            have e3 : (insW L x).map Value.string = (L.take (b + 1)).map Value.string ++ [.string x] ++ (L.drop (b + 1)).map Value.string := by rw [e1]; simp
            refine ⟨g3, cap3, by rw [e2]; rfl, ?_, hB3⟩
            unfold OwnS
            rw [e2, e3]
            exact own_base hown3 hB0
          · have hne : cap = (b + 1) := by omega
            clear hca
            go_wp2_with (first | (at_builtin; refine wpList_append_own _ rfl _ _ 41 rfl w.heap.size 9 i0 (.string ⟨#[]⟩) 1 16 Tryz.underlying41 hi hz0 hz1 hz2 rfl (by decide) _ _ _ rfl hown2 ⟨g, (b + 1), none⟩ (L.length - (b + 1)) _ ((L.drop (b + 1)).map Value.string) rfl (by simp) (DR.out _ hB2) (by intro u hu; obtain ⟨y, _, rfl⟩ := List.mem_map.1 hu; rfl) (by unfold maxLen; omega) (by omega) (by first | omega | (simp; omega)) ?_; intro v3 w3 hown3 hgrow3 hnil3; clear hnil3; have hB3 := hB2.grown hgrow3 (by omega) (fun q hq => (hown2.lt q hq).1)) | (at_builtin; refine wpList_append_own _ rfl _ _ 41 rfl w.heap.size 9 i0 (.string ⟨#[]⟩) 1 16 Tryz.underlying41 hi hz0 hz1 hz2 rfl (by decide) _ _ _ rfl hown2 ⟨g, 0, none⟩ (L.length - (b + 1)) _ ((L.drop (b + 1)).map Value.string) rfl (by simp) (by intro j u hj; rw [List.drop_eq_nil_of_le (by omega)] at hj; simp at hj) (by intro u hu; obtain ⟨y, _, rfl⟩ := List.mem_map.1 hu; rfl) (by unfold maxLen; omega) (by omega) (by first | omega | (simp; omega)) ?_; intro v3 w3 hown3 hgrow3 hnil3; clear hnil3; have hB3 := hB2.grown hgrow3 (by omega) (fun q hq => (hown2.lt q hq).1)) | (at_builtin; refine wpList_append_own _ rfl _ _ 41 rfl w.heap.size 9 i0 (.string ⟨#[]⟩) 1 16 Tryz.underlying41 hi hz0 hz1 hz2 rfl (by decide) _ _ _ rfl (hown1.alloc _) ⟨_, 0, none⟩ 1 1 [.string x] rfl rfl (cell_new _ _ _) (by intro u hu; simp at hu; subst hu; rfl) (by unfold maxLen; omega) (by omega) (by first | omega | (simp; omega)) ?_; intro v2 w2 hown2 hgrow2 hnil2; clear hnil2; obtain ⟨g2, cap2, rfl⟩ : ∃ g2 cap2, v2 = .slice (some ⟨g2, 0, none⟩) ((b + 1) + 1) cap2 := (by rcases own_forms hown2 with ⟨_, h0, _⟩ | ⟨g', c', e, _⟩; exact absurd h0 (by omega); exact ⟨g', c', e⟩); have hB2 := (hB1.alloc hbz1 (.cells #[.string x] 9)).grown hgrow2 (by simp; omega) (fun q hq => (hown1.lt q hq).1); have hbz2 := hB2.size) | (at_builtin; refine wpList_append_own _ rfl _ _ 41 rfl w.heap.size 9 i0 (.string ⟨#[]⟩) 1 16 Tryz.underlying41 hi hz0 hz1 hz2 rfl (by decide) _ _ _ rfl (World.ownsRow_lit wr #[] 0 hbz (by decide) (by simp)) ⟨g, 0, none⟩ (b + 1) _ ((L.take (b + 1)).map Value.string) rfl (by simp; omega) (TK.out _ (hB.alloc hbz _)) (by intro u hu; obtain ⟨y, _, rfl⟩ := List.mem_map.1 hu; rfl) (by unfold maxLen; omega) (by omega) (by first | omega | (simp; omega)) ?_; intro v1 w1 hown1 hgrow1 hnil1; clear hnil1; rw [Nat.zero_add, List.nil_append] at hown1; have hB1 := (hB.alloc hbz (.cells #[] 9)).grown hgrow1 (by simp; omega) (fun q hq => by cases hq; omega); have hbz1 := hB1.size))
            go_ret
            have he : 0 + 0 = 0 := rfl
            obtain ⟨g3, cap3, rfl⟩ : ∃ g3 cap3, v3 = .slice (some ⟨g3, 0, none⟩) ((b + 1) + 1 + (L.length - (b + 1))) cap3 := (by rcases own_forms hown3 with ⟨_, h0, _⟩ | ⟨g', c', e, _⟩; exact absurd h0 (by omega); exact ⟨g', c', e⟩)
            have e1 := hin.out
            have e2 : (insW L x).length = (b + 1) + 1 + (L.length - (b + 1)) := by rw [e1]; simp; omega
            have e3 : (insW L x).map Value.string = (L.take (b + 1)).map Value.string ++ [.string x] ++ (L.drop (b + 1)).map Value.string := by rw [e1]; simp
            refine ⟨g3, cap3, by rw [e2]; rfl, ?_, hB3⟩
            unfold OwnS
            rw [e2, e3]
            exact own_base hown3 hB0

end Go.Proofs.YtfipbnognjepkaaGreatDoor
