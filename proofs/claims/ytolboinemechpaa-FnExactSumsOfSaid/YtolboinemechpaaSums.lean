/- The sums of factors: the program. -/
import Derived.Test.YtolboinemechpaaSumPlain
import Derived.Test.YtolboinemechpaaFacIter
import Derived.Test.YtolboinemechpaaSortI
import Derived.Test.YtolboinemechpaaNumbers
import Derived.Test.YtolboinemechpaaGaps
namespace Go.Proofs.Ytolboinemechpaa
set_option linter.unusedVariables false
set_option linter.unusedSimpArgs false
open Go.RowKit Go.Shelf
attribute [local go_sem] Oper.semAt_some

/-- The sum of the first k numbers of letters. -/
def sumK (x : ByteArray) (k : Nat) : Nat := sumL ((bl x).take k)
theorem sumK_zero (x : ByteArray) : sumK x 0 = 0 := by unfold sumK; rw [List.take_zero]; rfl
theorem sumK_succ {x : ByteArray} (h : IsW x) {k : Nat} (hk : k < x.size) : (sumK x (k + 1) : Int) = (sumK x k : Int) + (((x[k]'hk).toNat : Int) - 97) := by
  unfold sumK
  rw [sumL_take (show k < (bl x).length by rw [bl_len]; exact hk)]
  have h1 : (bl x)[k]'(by rw [bl_len]; exact hk) = x[k]'hk := rfl
  rw [h1]
  have := h.lo k hk
  omega
theorem sumK_all (x : ByteArray) : sumK x x.size = sumL (bl x) := by unfold sumK; rw [List.take_of_length_le (by rw [bl_len]; exact Nat.le_refl _)]
theorem sumK_le {x : ByteArray} (h : IsW x) (k : Nat) : sumK x k ≤ 240 := by
  have h1 := sumL_le ((bl x).take k) fun c hc => (h.mem (List.mem_of_mem_take hc)).2
  rw [List.length_take, bl_len] at h1
  have := h.size
  unfold sumK
  omega
def smI (x : ByteArray) (m : Nat) (pre : List Nat) : List Int := pre.map fun i => ((sumL (bl (x.extract i (i + m))) : Nat) : Int)
theorem smI_snoc (x : ByteArray) (m : Nat) (pre : List Nat) (i : Nat) : smI x m (pre ++ [i]) = smI x m pre ++ [((sumL (bl (x.extract i (i + m))) : Nat) : Int)] := by unfold smI; rw [List.map_append]; rfl
theorem smI_len (x : ByteArray) (m : Nat) (pre : List Nat) : (smI x m pre).length = pre.length := List.length_map _
theorem smI_all (x : ByteArray) (m N : Nat) : smI x m (List.range N) = (smsN x m N).map fun s : Nat => (s : Int) := by unfold smI smsN; rw [List.map_map]; rfl

set_option maxRecDepth 100000 in
set_option maxHeartbeats 4000000 in
theorem impl_SumsOf_ok (x : ByteArray) (m : Nat) (w : World) (h : IsW x) (hm : m ≤ 60) :
    CallsIn Fence.wide 6 Try.prog 48 #[.string x, .int .i64 (m : Int)] w (RetI (asc (smsN x m (x.size + 1 - m)) 300) 0 w) := by
  have H := Lib.hid h
  have hx := h.size
  clear h
  obtain ⟨i0, hi, hz0, hz1, hz2⟩ := info_parts infoI64
  refine callsIn_of_wp_marks Try.func48 rfl trivial ?_ rfl
  simp only [Try.ntmps48, List.size_toArray, List.length_cons, List.length_nil, Nat.reduceAdd, Nat.reduceSub, Array.replicate_succ, Array.replicate_zero, List.push_toArray, List.append_toArray, List.nil_append, List.cons_append]
  gi_wp2_with (first | (refine ⟨trivial, ?_⟩; gi_at_call 55; refine (callsIn_wide.2 (isWord_yes x _ H.out)).mono ?_; rintro e w1 ⟨rfl, b1⟩) | (refine ⟨trivial, ?_⟩; gi_at_call 79; refine (factorsIn_in Fence.wide _ trivial rfl _ _ _).mono ?_; rintro e w2 ⟨rfl, rfl⟩))
  have hw1 := b1.size
  have hB0 : Below w.heap.size w (((w1.alloc (.cells #[.slice none 0 0] 30)).alloc (.cells #[.string x] 9)).alloc (.cells #[.int .i64 (m : Int)] 2)) := ((b1.alloc hw1 _).alloc (by simp; omega) _).alloc (by simp; omega) _
  have p0 : Boxed (((w1.alloc (.cells #[.slice none 0 0] 30)).alloc (.cells #[.string x] 9)).alloc (.cells #[.int .i64 (m : Int)] 2)) w1.heap.size 30 (.slice none 0 0) := ((Boxed.new w1 _ _).alloc _).alloc _
  have q2 : Boxed (((w1.alloc (.cells #[.slice none 0 0] 30)).alloc (.cells #[.string x] 9)).alloc (.cells #[.int .i64 (m : Int)] 2)) (w1.heap.size + 1) 9 (.string x) := by
    have := Boxed.new (w1.alloc (.cells #[.slice none 0 0] 30)) 9 (.string x)
    rw [World.size_alloc] at this
    exact this.alloc _
  have q1 : Boxed (((w1.alloc (.cells #[.slice none 0 0] 30)).alloc (.cells #[.string x] 9)).alloc (.cells #[.int .i64 (m : Int)] 2)) (w1.heap.size + 1 + 1) 2 (.int .i64 (m : Int)) := by
    have := Boxed.new ((w1.alloc (.cells #[.slice none 0 0] 30)).alloc (.cells #[.string x] 9)) 2 (.int .i64 (m : Int))
    simp only [World.size_alloc] at this
    exact this
  have hs0 : (((w1.alloc (.cells #[.slice none 0 0] 30)).alloc (.cells #[.string x] 9)).alloc (.cells #[.int .i64 (m : Int)] 2)).heap.size = w1.heap.size + 3 := by simp
  generalize hW0 : (((w1.alloc (.cells #[.slice none 0 0] 30)).alloc (.cells #[.string x] 9)).alloc (.cells #[.int .i64 (m : Int)] 2)) = W0 at hB0 p0 q1 q2 hs0 ⊢
  clear hW0 b1
  refine wpIn_rangeFunc_ownG rfl (by decide) (gf := 99) (lb := #[.pointer (some ⟨w1.heap.size + 1 + 1, 0, none⟩), .pointer (some ⟨w1.heap.size + 1, 0, none⟩)]) rfl trivial (enters_of Try.func99 (by kernel_rfl) rfl)
    (factors_stops Fence.wide 5 trivial rfl (by decide) (w1.heap.size + 1 + 1) (w1.heap.size + 1) w.heap.size x m hx hm W0 q1 q2) kpF_t (kpF_b (by omega) (by omega) (by omega)) (Below.refl _ _) (fun _ => rfl)
    (fun pre W => ((∃ v, Boxed W w1.heap.size 30 v ∧ W.ownsRow W0.heap.size 2 1 v (smI x m pre).length ((smI x m pre).map (Value.int .i64)) ∧ True) ∧ (Boxed W (w1.heap.size + 1 + 1) 2 (.int .i64 (m : Int)) ∧ Boxed W (w1.heap.size + 1) 9 (.string x))) ∧ Below w.heap.size w W)
    (fun _ _ _ => False)
    (OwnFrom.and (OwnFrom.and (Own.from (holdsRow_own W0.heap.size w1.heap.size 30 2 1 (fun pre => (smI x m pre).length) (fun pre => (smI x m pre).map (Value.int .i64)) (fun pre v => True)) _) (OwnFrom.and (Own.from (boxed_own _ _ _) _) (Own.from (boxed_own _ _ _) _))) (ownFrom_below (Nat.le_refl _) (by omega)))
    (fun _ _ _ _ _ hs _ _ => hs)
    ⟨⟨⟨_, p0, World.ownsRow_nil _ _ _ _, trivial⟩, q1, q2⟩, hB0⟩
    (fun i => { tmps := #[.string x, .int .i64 (m : Int), undef, undef, .slice none 0 0, .int .i64 0, .pointer (some ⟨w1.heap.size, 0, none⟩), undef, .string (x.extract i (i + m)), undef, undef, undef, .string x, .bool true, .bool false, .int .i64 (m : Int), .bool (decide ((m : Int) < 0)), .bool (decide ((m : Int) < 0)), .int .i64 (m : Int), .bool (decide (60 < (m : Int))), .bool (decide ((m : Int) < 0) || decide (60 < (m : Int))), .string x, .int .i64 (m : Int), .func (.func 99) #[] #[.pointer (some ⟨w1.heap.size + 1 + 1, 0, none⟩), .pointer (some ⟨w1.heap.size + 1, 0, none⟩)], .int .i64 (i : Int), .string (x.extract i (i + m)), undef, undef, undef, undef, undef, undef, undef, undef, undef, undef, undef, undef, undef, undef, undef, undef, undef, undef, undef], defers := [] }) ?assign ?body ?done ?stop
  case assign =>
    intro l i W K hK
    gi_wp2
    exact hK
  case body =>
    rintro l pre i W ⟨⟨⟨v, hv, hrow, _⟩, r1, r2⟩, hB⟩ hlt
    have hy := H.out.sub i (i + m)
    have hys : (x.extract i (i + m)).size ≤ 60 := hy.size
    have hsn := smI_snoc x m pre i
    rw [← sumK_all] at hsn
    generalize x.extract i (i + m) = y at *
    have HSN := Lib.hid hsn
    have HY := Lib.hid hy
    have HNL := Lib.hid (numsR_len y)
    clear hsn hy
    have hbz := hB.size
    have hWz : W0.heap.size ≤ W.heap.size := by have := r1.lt; omega
    gi_wp2_with fail
    refine ⟨trivial, ?_⟩
    gi_at_call 56
    refine (CallsIn.inRound l (callsIn_wide.2 (numbersOf_any y _ HY.out))).mono ?_
    rintro e w2 ⟨nv, rfl, hnv, bb⟩
    have hv2 : Boxed w2 w1.heap.size 30 v := (bb.block _ hv.lt).trans hv
    have hrow2 := own_below hrow bb
    have s1 : Boxed w2 (w1.heap.size + 1 + 1) 2 (.int .i64 (m : Int)) := (bb.block _ r1.lt).trans r1
    have s2 : Boxed w2 (w1.heap.size + 1) 9 (.string x) := (bb.block _ r2.lt).trans r2
    have hbb := bb.size
    have hc := hv2.cell
    have hpl := smI_len x m pre
    rw [hpl] at hrow2
    have hB2 : Below w.heap.size w w2 := hB.trans (bb.mono hbz)
    have hk0 : ∀ B, KeepsFrom B W w2 := fun B => KeepsFrom.of_grownBy (row := none) (⟨bb.os, bb.tape, bb.output, bb.size, fun j hj _ => bb.block j hj⟩ : W.grownBy w2 none) (fun j e => by cases e)
    obtain ⟨na, nc, rfl, hlook⟩ := hnv.lookG
    have HL : Hid (∀ j (hj : j < y.size), ∃ g, na = some ⟨g, 0, none⟩ ∧ W.heap.size ≤ g ∧ g < w2.heap.size ∧ j < nc ∧ w2.cell? ⟨g, j, none⟩ = some (.int .i64 (((y[j]'hj).toNat : Int) - 97))) := Lib.hid fun j hj => by
      obtain ⟨g, a1, a2, a3, a4, a5⟩ := hlook j (by rw [HNL.out]; exact hj)
      exact ⟨g, a1, a2, a3, a4, by rw [a5, numsR_get y j _ hj]⟩
    rw [HNL.out]
    clear hlook hnv
    gi_wp2_with fail
    gi_loopw [9, 29] (fun s i wr => wr = w2 ∧ ∃ k : Nat, k ≤ y.size ∧ s = .int .i64 (sumK y k : Int) ∧ i = .int .i64 (k : Int))
      (fun _ i _ => y.size - (intOf i).toNat)
    case atStart => exact ⟨rfl, 0, Nat.zero_le _, by rw [sumK_zero]; rfl, rfl⟩
    case round =>
      obtain ⟨rfl, k, hk, rfl, rfl⟩ := hrel
      by_cases hp : k < y.size
      · obtain ⟨g, rfl, hg1, hg2, hg3, cell⟩ := HL.out k hp
        have hlo := HY.out.lo k hp
        have hhi := HY.out.hi k hp
        have hsc := sumK_succ HY.out hp
        have hle := sumK_le HY.out k
        have hkn : (k : Int) < (y.size : Int) := by omega
        have wq : IntKind.i64.wrap ((sumK y k : Int) + (((y[k]'hp).toNat : Int) - 97)) = (sumK y (k + 1) : Int) := (IntWalk.i64_in _ (by omega)).trans hsc.symm
        generalize ((y[k]'hp).toNat : Int) - 97 = z at *
        gi_wp2
        refine ⟨⟨trivial, k + 1, by omega, ?_, by go_num⟩, by simp [intOf]; omega⟩
        rw [hsc]
      · obtain rfl : k = y.size := by omega
        have hle := sumK_le HY.out y.size
        have hsn := HSN.out
        have hkn : ¬ (y.size : Int) < (y.size : Int) := by omega
        gi_wp2_with (gi_at_builtin; refine wpListIn_append_own _ rfl _ _ 30 rfl W0.heap.size 2 i0 (.int .i64 0) 1 8 Try.underlying30 hi hz0 hz1 hz2 rfl (by decide) _ _ _ rfl (hrow2.alloc _) ⟨wr.heap.size, 0, none⟩ 1 1 [.int .i64 (sumK y y.size : Int)] rfl rfl (cell_one_new _ _ _) (by simp [Value.oneCell']) (by unfold maxLen; omega) (by omega) (by simp; omega) ?_; intro v' w3 hown' hgrow _; obtain ⟨g', cap', rfl⟩ := ownsRow_succ hown'; obtain ⟨hv1, hv3, hr3, hk3, hb3, hfr⟩ := appended2 (n₀ := w.heap.size) hv2 (by decide) hrow2 (by omega) (by omega) (by omega) (by omega) hown' hgrow; have hc1 := hv1.cell; have hf1 := hv1.frozen)
        refine ⟨(hk0 _).trans (hk3.from _), ⟨(bb.mono hbz).trans hb3, (hfr _ (by omega) (by omega)).trans (bb.block _ r1.lt), (hfr _ (by omega) (by omega)).trans (bb.block _ r2.lt)⟩, ⟨⟨_, hv3, ?_⟩, (hfr _ (by omega) (by omega)).trans s1, (hfr _ (by omega) (by omega)).trans s2⟩, hB2.trans hb3⟩
        rw [hsn, List.length_append, ← map_snoc, hpl, ← hs0]
        exact hr3
  case done =>
    rintro D ys W hD rfl ⟨⟨⟨v, hv, hrow, _⟩, r1, r2⟩, hB⟩ hK
    have hc := hv.cell
    have hWz : W0.heap.size ≤ W.heap.size := by have := r1.lt; omega
    have hbz := hB.size
    rw [smI_all] at hrow
    have hro : OwnI W W0.heap.size v ((smsN x m (x.size + 1 - m)).map fun s : Nat => (s : Int)) := by
      exact hrow
    have hln : ((smsN x m (x.size + 1 - m)).map fun s : Nat => (s : Int)).length ≤ 100 := by rw [List.length_map, smsN_len]; omega
    have hsa := sorted_asc (S := smsN x m (x.size + 1 - m)) (N := 300) fun s hs => by have := smsN_le H.out m (x.size + 1 - m) s hs; omega
    have HSA := Lib.hid hsa
    have hcl : (Lib.compact (sorted ((smsN x m (x.size + 1 - m)).map fun s : Nat => (s : Int)))).length ≤ (sorted ((smsN x m (x.size + 1 - m)).map fun s : Nat => (s : Int))).length := compact_len _
    have hsl := sorted_len ((smsN x m (x.size + 1 - m)).map fun s : Nat => (s : Int))
    clear hsa
    generalize (smsN x m (x.size + 1 - m)).map (fun s : Nat => (s : Int)) = L at *
    have hKlt : D < W.heap.size := (Array.getElem?_eq_some_iff.1 hK).1
    have hne : v.ownBlock ≠ some D := by
      intro e
      rcases hro.2 with ⟨rfl, _⟩ | ⟨g, cap, cur, rfl, _, hb, _⟩
      · cases e
      · cases e; rw [hK] at hb; cases hb
    have hnb : v.ownBlock ≠ some w1.heap.size := fun e => by have := (hro.lt _ e).1; omega
    have hvb : ∀ q, v.ownBlock = some q → w.heap.size ≤ q := fun q e => by have := (hro.lt _ e).1; omega
    clear hrow
    gi_wp2_with fail
    refine ⟨trivial, ?_⟩
    gi_at_call 57
    refine (callsIn_wide.2 (sortI W0.heap.size v L W hro (by omega))).mono ?_
    rintro e W2 ⟨rfl, hro2, g2⟩
    have hv2 := hv.kept g2 hnb.symm
    have hc2 := hv2.cell
    have hg2 := g2.size
    gi_wp2_with fail
    refine ⟨trivial, ?_⟩
    gi_at_call 80
    refine (callsIn_wide.2 (compactI W0.heap.size v _ W2 hro2 (by omega) hcl)).mono ?_
    rintro e W3 ⟨u, rfl, hro3, g3⟩
    have hg3 := g3.size
    have hB3 : Below w.heap.size w W3 := (hB.grown g2 (by omega) hvb).grown g3 (by omega) hvb
    have hK3 : W3.heap[D]? = some (.deferred (some [])) := ((g3.block D (by omega) (fun e => hne e.symm)).trans (g2.block D hKlt (fun e => hne e.symm))).trans hK
    rw [HSA.out] at hro3
    gi_wp2
    refine ⟨by simp, .inl ⟨_, _, rfl, run_takeDeferred hK3, ?_⟩⟩
    exact ⟨_, results_tmp2 rfl _ _ _, u, rfl, own_base (ownsRow_putObj hro3 _ hK3 rfl) (by omega), hB3.trans (belowK_b (w := w) (Nat.le_refl _) W3 D _ _ (by omega) hK3 rfl rfl)⟩
  case stop =>
    rintro D c pre W _ _ h _
    exact h.elim

set_option maxRecDepth 100000 in
theorem impl_SumsOf (x : ByteArray) (m : Int) (w : World) (sx : x.size ≤ maxLen) (wm : (Lit.int .i64 m).wf = true) :
    Calls Try.prog 48 #[.string x, .int .i64 m] w (RetI (sumsR x m).1 (sumsR x m).2 w) := by
  by_cases h : IsW x
  · by_cases hk : m < 0 ∨ 60 < m
    · rw [sumsR_out h hk]
      have H := Lib.hid h
      clear h
      rcases (show m < 0 ∨ (0 ≤ m ∧ 60 < m) by omega) with h2 | ⟨h2, h3⟩
      all_goals
        clear hk
        go_enter Try.func48, Try.ntmps48
        go_wp2_with fail
        refine (isWord_yes x _ H.out).mono ?_
        rintro e w1 ⟨rfl, b1⟩
        go_wp2_with fail
        go_ret2
        exact ⟨_, rfl, OwnI.nil _ _, b1⟩
    · obtain ⟨n, rfl⟩ := Int.eq_ofNat_of_zero_le (show 0 ≤ m by omega)
      have e := sumsR_ok h hk
      rw [e]
      exact callsIn_wide.1 (impl_SumsOf_ok x n w h (by omega))
  · rw [sumsR_bad h]
    have H := Lib.hid h
    clear h
    go_enter Try.func48, Try.ntmps48
    go_wp2_with fail
    refine (isWord_not x _ sx H.out).mono ?_
    rintro e w1 ⟨rfl, b1⟩
    go_wp2_with fail
    go_ret2
    exact ⟨_, rfl, OwnI.nil _ _, b1⟩

end Go.Proofs.Ytolboinemechpaa
