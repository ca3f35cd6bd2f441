/- Abelian periods: the program's test. -/
import Derived.Test.YtolboinemechpaaAp
import Derived.Deep.RegionHeld3
namespace Go.Proofs.Ytolboinemechpaa
set_option linter.unusedVariables false
set_option linter.unusedSimpArgs false
open Go.RowKit

/-- The five cells of an array. -/
def Five (b : Nat) (f : Nat → Nat) (w' : World) : Prop := b < w'.heap.size ∧ w'.cell? ⟨b, 0, none⟩ = some (.int .i64 (f 0 : Int)) ∧ w'.cell? ⟨b, 1, none⟩ = some (.int .i64 (f 1 : Int)) ∧ w'.cell? ⟨b, 2, none⟩ = some (.int .i64 (f 2 : Int)) ∧ w'.cell? ⟨b, 3, none⟩ = some (.int .i64 (f 3 : Int)) ∧ w'.cell? ⟨b, 4, none⟩ = some (.int .i64 (f 4 : Int))
theorem Five.of {b : Nat} {f : Nat → Nat} {w : World} (h : Arr5 w b f) : Five b f w := ⟨h.lt, h.cell 0 (by decide), h.cell 1 (by decide), h.cell 2 (by decide), h.cell 3 (by decide), h.cell 4 (by decide)⟩
theorem Five.after {b : Nat} {f : Nat → Nat} {w w' : World} (k : Below w.heap.size w w') (h : Five b f w) : Five b f w' := by
  obtain ⟨h0, h1, h2, h3, h4, h5⟩ := h
  have c := (bcell k).1
  exact ⟨Nat.lt_of_lt_of_le h0 k.size, (c b 0 h0).trans h1, (c b 1 h0).trans h2, (c b 2 h0).trans h3, (c b 3 h0).trans h4, (c b 4 h0).trans h5⟩

set_option maxRecDepth 100000 in
set_option maxHeartbeats 4000000 in
theorem hasAbelianPeriod_any (x : ByteArray) (m h : Nat) (w : World) (hw : IsW x) (m1 : 1 ≤ m) (hc : h + m ≤ x.size) :
    Calls Try.prog 71 #[.string x, .int .i64 (m : Int), .int .i64 (h : Int)] w fun e w' => e = .returned (.bool (decide (apT (bl x) m h))) ∧ Below w.heap.size w w' := by
  obtain ⟨R, hR⟩ : ∃ R, decide (apT (bl x) m h) = R := ⟨_, rfl⟩
  rw [hR]
  have HR := Lib.hid hR
  have hx := hw.size
  clear hR
  have hsl0 := fun W => slice_fr x (h : Int) h rfl (by omega) W
  obtain ⟨z, hz⟩ : ∃ z, x.extract h x.size = z := ⟨_, rfl⟩
  have hzs : z.size = x.size - h := by rw [← hz]; simp
  have hzw : IsW z := by rw [← hz]; exact hw.sub _ _
  have hzb : bl z = (bl x).drop h := by rw [← hz, bl_drop]
  rw [hz] at hsl0
  obtain ⟨C, hC⟩ : ∃ C, z.size / m = C := ⟨_, rfl⟩
  have hCi : (z.size : Int) / (m : Int) = (C : Int) := by rw [← hC, Int.natCast_ediv]
  obtain ⟨Q, hQ⟩ : ∃ Q, C * m = Q := ⟨_, rfl⟩
  have hQi : (C : Int) * (m : Int) = (Q : Int) := by rw [← hQ]; exact (Int.natCast_mul C m).symm
  have hQz : Q ≤ z.size := by rw [← hQ, ← hC]; exact Nat.div_mul_le_self _ _
  have hCz : C ≤ z.size := by rw [← hC]; exact Nat.div_le_self _ _
  have hz60 : z.size ≤ 60 := by omega
  have hmz : m ≤ z.size := by omega
  have hsl1 := fun W => slice_fr z (Q : Int) Q rfl hQz W
  have hsl2 := fun W => slice_0m z m hmz W
  have hsl3 := fun W => slice_0m x h (by omega) W
  have V1 := Lib.hid fun W => vectorOf_any (z.extract 0 m) W (hzw.sub _ _)
  have V2 := Lib.hid fun W => vectorOf_any (x.extract 0 h) W (hw.sub _ _)
  have V3 := Lib.hid fun W => vectorOf_any (z.extract Q z.size) W (hzw.sub _ _)
  have FA := Lib.hid fun W => areFactorsAlike_any z m W hzw m1 (by omega)
  rw [bl_take, hzb] at V1
  rw [bl_take] at V2
  rw [bl_drop, hzb, List.drop_drop] at V3
  rw [hzb] at FA
  have IA := Lib.hid fun W => isAtMost_any ((bl x).take h) (((bl x).drop h).take m) W
  have IB := Lib.hid fun W => isAtMost_any ((bl x).drop (h + Q)) (((bl x).drop h).take m) W
  obtain ⟨q0, hq0⟩ : ∃ q, decide (alk ((bl x).drop h) m) = q := ⟨_, rfl⟩
  obtain ⟨q1, hq1⟩ : ∃ q, vle ((bl x).take h) (((bl x).drop h).take m) = q := ⟨_, rfl⟩
  obtain ⟨q2, hq2⟩ : ∃ q, vle ((bl x).drop (h + Q)) (((bl x).drop h).take m) = q := ⟨_, rfl⟩
  have HRR : Hid (R = (q0 && (q1 && q2))) := Lib.hid (by
    rw [← HR.out, ← hq0, ← hq1, ← hq2, Bool.eq_iff_iff, decide_eq_true_iff, Bool.and_eq_true, Bool.and_eq_true, decide_eq_true_iff]
    unfold apT
    rw [bl_len, ← hzs, hC, hQ]
    exact ⟨fun q => ⟨q.2.1, q.2.2.1, q.2.2.2⟩, fun q => ⟨hc, q.1, q.2.1, q.2.2⟩⟩)
  rw [hq0] at FA
  rw [hq1] at IA
  rw [hq2] at IB
  generalize ct (((bl x).drop h).take m) = f1 at *
  generalize ct ((bl x).take h) = f2 at *
  generalize ct ((bl x).drop (h + Q)) = f3 at *
  clear hq0 hq1 hq2 hz hzb hzw hC hQ hzs hw hc
  generalize z.extract 0 m = z1 at *
  generalize x.extract 0 h = z2 at *
  generalize z.extract Q z.size = z3 at *
  go_enter Try.func71, Try.ntmps71
  go_wp2_with fail
  refine (V1.out _).mono ?_
  rintro e w1 ⟨rfl, b1⟩
  go_upto_region 4 with fail
  have A1 : Arr5 (w1.alloc (.cells #[.int .i64 (f1 0 : Int), .int .i64 (f1 1 : Int), .int .i64 (f1 2 : Int), .int .i64 (f1 3 : Int), .int .i64 (f1 4 : Int)] 55)) w1.heap.size f1 := Arr5.new _ _
  have B1 : Below w1.heap.size w1 (w1.alloc (.cells #[.int .i64 (f1 0 : Int), .int .i64 (f1 1 : Int), .int .i64 (f1 2 : Int), .int .i64 (f1 3 : Int), .int .i64 (f1 4 : Int)] 55)) := Below.new _ _
  generalize w1.alloc (.cells #[.int .i64 (f1 0 : Int), .int .i64 (f1 1 : Int), .int .i64 (f1 2 : Int), .int .i64 (f1 3 : Int), .int .i64 (f1 4 : Int)] 55) = W1 at *
  have HB := b1.then B1
  have F1 := Five.of A1
  obtain ⟨kl, k0, k1, k2, k3, k4⟩ := id F1
  have hmo : Try.prog.follows .mixedOrders = true := by kernel_rfl
  clear hsl0 hsl1 hsl2 V1 A1 b1 B1
  cases q0 with
  | false =>
    have HN : Hid (R = false) := Lib.hid (by rw [HRR.out]; rfl)
    refine wp_region_held_drew (S := Five w1.heap.size f1) (by kernel_rfl) (show Five _ _ W1.drew from F1) (fun hH => ?_)
    have HBd := HB.drew
    refine wpAnyH_take (i := 0) (v := ?_) rfl (by kernel_rfl) (by kernel_rfl) (by kernel_rfl) (fun _ _ _ h => h) (Or.inl ⟨by rfl, ?_⟩) hH ?_
    rotate_left 1
    · intro w hSw; go_simp <;> with_reducible rfl
    try simp only [List.getElem_toArray, List.getElem_cons_succ, List.getElem_cons_zero, Act.put, List.setIfInBounds_toArray, List.set_cons_zero, List.set_cons_succ]
    refine wpAnyH_take (i := 1) (v := ?_) rfl (by kernel_rfl) (by kernel_rfl) (by kernel_rfl) (fun _ _ _ h => h) (Or.inl ⟨by rfl, ?_⟩) hH ?_
    rotate_left 1
    · intro w hSw; go_simp <;> with_reducible rfl
    try simp only [List.getElem_toArray, List.getElem_cons_succ, List.getElem_cons_zero, Act.put, List.setIfInBounds_toArray, List.set_cons_zero, List.set_cons_succ]
    refine wpAnyH_ready (rs := [2]) (by kernel_rfl) (by simp) ?_
    refine AllReadyH.cons rfl (fun K hK => ?_) AllReadyH.nil
    go_simp
    (with_reducible refine (FA.out _).mono ?_)
    rintro e wa ⟨rfl, ba⟩
    have Sa : Five w1.heap.size f1 wa := Five.after ba hH
    go_wp2_with fail
    refine hK.out _ _ Sa (fun _ => ?_)
    clear hK K
    try simp only [List.getElem_toArray, List.getElem_cons_succ, List.getElem_cons_zero, Act.put, List.setIfInBounds_toArray, List.set_cons_zero, List.set_cons_succ]
    refine wpAnyH_take (i := 3) (v := ?_) rfl (by kernel_rfl) (by kernel_rfl) (by kernel_rfl) (fun _ _ _ h => h) (Or.inl ⟨by rfl, ?_⟩) Sa ?_
    rotate_left 1
    · intro w hSw; go_simp <;> with_reducible rfl
    try simp only [List.getElem_toArray, List.getElem_cons_succ, List.getElem_cons_zero, Act.put, List.setIfInBounds_toArray, List.set_cons_zero, List.set_cons_succ]
    refine wpAnyH_take (i := 4) (v := undef) rfl (by kernel_rfl) (by kernel_rfl) (by kernel_rfl) (fun _ _ _ h => h) (Or.inr ⟨by rfl, rfl⟩) Sa ?_
    try simp only [List.getElem_toArray, List.getElem_cons_succ, List.getElem_cons_zero, Act.put, List.setIfInBounds_toArray, List.set_cons_zero, List.set_cons_succ]
    refine wpAnyH_take (i := 5) (v := undef) rfl (by kernel_rfl) (by kernel_rfl) (by kernel_rfl) (fun _ _ _ h => h) (Or.inr ⟨by rfl, rfl⟩) Sa ?_
    try simp only [List.getElem_toArray, List.getElem_cons_succ, List.getElem_cons_zero, Act.put, List.setIfInBounds_toArray, List.set_cons_zero, List.set_cons_succ]
    refine wpAnyH_take (i := 6) (v := undef) rfl (by kernel_rfl) (by kernel_rfl) (by kernel_rfl) (fun _ _ _ h => h) (Or.inr ⟨by rfl, rfl⟩) Sa ?_
    try simp only [List.getElem_toArray, List.getElem_cons_succ, List.getElem_cons_zero, Act.put, List.setIfInBounds_toArray, List.set_cons_zero, List.set_cons_succ]
    refine wpAnyH_take (i := 7) (v := undef) rfl (by kernel_rfl) (by kernel_rfl) (by kernel_rfl) (fun _ _ _ h => h) (Or.inr ⟨by rfl, rfl⟩) Sa ?_
    try simp only [List.getElem_toArray, List.getElem_cons_succ, List.getElem_cons_zero, Act.put, List.setIfInBounds_toArray, List.set_cons_zero, List.set_cons_succ]
    refine wpAnyH_take (i := 8) (v := undef) rfl (by kernel_rfl) (by kernel_rfl) (by kernel_rfl) (fun _ _ _ h => h) (Or.inr ⟨by rfl, rfl⟩) Sa ?_
    try simp only [List.getElem_toArray, List.getElem_cons_succ, List.getElem_cons_zero, Act.put, List.setIfInBounds_toArray, List.set_cons_zero, List.set_cons_succ]
    refine wpAnyH_take (i := 9) (v := undef) rfl (by kernel_rfl) (by kernel_rfl) (by kernel_rfl) (fun _ _ _ h => h) (Or.inr ⟨by rfl, rfl⟩) Sa ?_
    try simp only [List.getElem_toArray, List.getElem_cons_succ, List.getElem_cons_zero, Act.put, List.setIfInBounds_toArray, List.set_cons_zero, List.set_cons_succ]
    refine wpAnyH_take (i := 10) (v := ?_) rfl (by kernel_rfl) (by kernel_rfl) (by kernel_rfl) (fun _ _ _ h => h) (Or.inl ⟨by rfl, ?_⟩) Sa ?_
    rotate_left 1
    · intro w hSw; go_simp <;> with_reducible rfl
    try simp only [List.getElem_toArray, List.getElem_cons_succ, List.getElem_cons_zero, Act.put, List.setIfInBounds_toArray, List.set_cons_zero, List.set_cons_succ]
    refine wpAnyH_take (i := 11) (v := ?_) rfl (by kernel_rfl) (by kernel_rfl) (by kernel_rfl) (fun _ _ _ h => h) (Or.inl ⟨by rfl, ?_⟩) Sa ?_
    rotate_left 1
    · intro w hSw; go_simp <;> with_reducible rfl
    try simp only [List.getElem_toArray, List.getElem_cons_succ, List.getElem_cons_zero, Act.put, List.setIfInBounds_toArray, List.set_cons_zero, List.set_cons_succ]
    refine wpAnyH_take (i := 12) (v := undef) rfl (by kernel_rfl) (by kernel_rfl) (by kernel_rfl) (fun _ _ _ h => h) (Or.inr ⟨by rfl, rfl⟩) Sa ?_
    try simp only [List.getElem_toArray, List.getElem_cons_succ, List.getElem_cons_zero, Act.put, List.setIfInBounds_toArray, List.set_cons_zero, List.set_cons_succ]
    refine wpAnyH_take (i := 13) (v := undef) rfl (by kernel_rfl) (by kernel_rfl) (by kernel_rfl) (fun _ _ _ h => h) (Or.inr ⟨by rfl, rfl⟩) Sa ?_
    try simp only [List.getElem_toArray, List.getElem_cons_succ, List.getElem_cons_zero, Act.put, List.setIfInBounds_toArray, List.set_cons_zero, List.set_cons_succ]
    refine wpAnyH_take (i := 14) (v := undef) rfl (by kernel_rfl) (by kernel_rfl) (by kernel_rfl) (fun _ _ _ h => h) (Or.inr ⟨by rfl, rfl⟩) Sa ?_
    try simp only [List.getElem_toArray, List.getElem_cons_succ, List.getElem_cons_zero, Act.put, List.setIfInBounds_toArray, List.set_cons_zero, List.set_cons_succ]
    refine wpAnyH_take (i := 15) (v := undef) rfl (by kernel_rfl) (by kernel_rfl) (by kernel_rfl) (fun _ _ _ h => h) (Or.inr ⟨by rfl, rfl⟩) Sa ?_
    try simp only [List.getElem_toArray, List.getElem_cons_succ, List.getElem_cons_zero, Act.put, List.setIfInBounds_toArray, List.set_cons_zero, List.set_cons_succ]
    refine wpAnyH_take (i := 16) (v := ?_) rfl (by kernel_rfl) (by kernel_rfl) (by kernel_rfl) (fun _ _ _ h => h) (Or.inl ⟨by rfl, ?_⟩) Sa ?_
    rotate_left 1
    · intro w hSw; go_simp <;> with_reducible rfl
    try simp only [List.getElem_toArray, List.getElem_cons_succ, List.getElem_cons_zero, Act.put, List.setIfInBounds_toArray, List.set_cons_zero, List.set_cons_succ]
    refine wpAnyH_take (i := 17) (v := ?_) rfl (by kernel_rfl) (by kernel_rfl) (by kernel_rfl) (fun _ _ _ h => h) (Or.inl ⟨by rfl, ?_⟩) Sa ?_
    rotate_left 1
    · intro w hSw; go_simp <;> with_reducible rfl
    try simp only [List.getElem_toArray, List.getElem_cons_succ, List.getElem_cons_zero, Act.put, List.setIfInBounds_toArray, List.set_cons_zero, List.set_cons_succ]
    refine wpAnyH_done (by kernel_rfl) ?_ _
    go_wp2
    go_ret
    exact ⟨by rw [HN.out]; rfl, HBd.then ba⟩
  | true =>
    cases q1 with
    | false =>
      have HN : Hid (R = false) := Lib.hid (by rw [HRR.out]; rfl)
      refine wp_region_held_drew (S := Five w1.heap.size f1) (by kernel_rfl) (show Five _ _ W1.drew from F1) (fun hH => ?_)
      have HBd := HB.drew
      refine wpAnyH_take (i := 0) (v := ?_) rfl (by kernel_rfl) (by kernel_rfl) (by kernel_rfl) (fun _ _ _ h => h) (Or.inl ⟨by rfl, ?_⟩) hH ?_
      rotate_left 1
      · intro w hSw; go_simp <;> with_reducible rfl
      try simp only [List.getElem_toArray, List.getElem_cons_succ, List.getElem_cons_zero, Act.put, List.setIfInBounds_toArray, List.set_cons_zero, List.set_cons_succ]
      refine wpAnyH_take (i := 1) (v := ?_) rfl (by kernel_rfl) (by kernel_rfl) (by kernel_rfl) (fun _ _ _ h => h) (Or.inl ⟨by rfl, ?_⟩) hH ?_
      rotate_left 1
      · intro w hSw; go_simp <;> with_reducible rfl
      try simp only [List.getElem_toArray, List.getElem_cons_succ, List.getElem_cons_zero, Act.put, List.setIfInBounds_toArray, List.set_cons_zero, List.set_cons_succ]
      refine wpAnyH_ready (rs := [2]) (by kernel_rfl) (by simp) ?_
      refine AllReadyH.cons rfl (fun K hK => ?_) AllReadyH.nil
      go_simp
      (with_reducible refine (FA.out _).mono ?_)
      rintro e wa ⟨rfl, ba⟩
      have Sa : Five w1.heap.size f1 wa := Five.after ba hH
      go_wp2_with fail
      refine hK.out _ _ Sa (fun _ => ?_)
      clear hK K
      try simp only [List.getElem_toArray, List.getElem_cons_succ, List.getElem_cons_zero, Act.put, List.setIfInBounds_toArray, List.set_cons_zero, List.set_cons_succ]
      refine wpAnyH_take (i := 3) (v := ?_) rfl (by kernel_rfl) (by kernel_rfl) (by kernel_rfl) (fun _ _ _ h => h) (Or.inl ⟨by rfl, ?_⟩) Sa ?_
      rotate_left 1
      · intro w hSw; go_simp <;> with_reducible rfl
      try simp only [List.getElem_toArray, List.getElem_cons_succ, List.getElem_cons_zero, Act.put, List.setIfInBounds_toArray, List.set_cons_zero, List.set_cons_succ]
      refine wpAnyH_take (i := 4) (v := ?_) rfl (by kernel_rfl) (by kernel_rfl) (by kernel_rfl) (fun _ _ _ h => h) (Or.inl ⟨by rfl, ?_⟩) Sa ?_
      rotate_left 1
      · intro w hSw; go_simp <;> with_reducible rfl
      try simp only [List.getElem_toArray, List.getElem_cons_succ, List.getElem_cons_zero, Act.put, List.setIfInBounds_toArray, List.set_cons_zero, List.set_cons_succ]
      refine wpAnyH_take (i := 5) (v := ?_) rfl (by kernel_rfl) (by kernel_rfl) (by kernel_rfl) (fun _ _ _ h => h) (Or.inl ⟨by rfl, ?_⟩) Sa ?_
      rotate_left 1
      · intro w hSw; go_simp <;> with_reducible rfl
      try simp only [List.getElem_toArray, List.getElem_cons_succ, List.getElem_cons_zero, Act.put, List.setIfInBounds_toArray, List.set_cons_zero, List.set_cons_succ]
      refine wpAnyH_take (i := 6) (v := ?_) rfl (by kernel_rfl) (by kernel_rfl) (by kernel_rfl) (fun _ _ _ h => h) (Or.inl ⟨by rfl, ?_⟩) Sa ?_
      rotate_left 1
      · intro w hSw; go_simp <;> with_reducible rfl
      try simp only [List.getElem_toArray, List.getElem_cons_succ, List.getElem_cons_zero, Act.put, List.setIfInBounds_toArray, List.set_cons_zero, List.set_cons_succ]
      refine wpAnyH_take (i := 8) (v := ?_) rfl (by kernel_rfl) (by kernel_rfl) (by kernel_rfl) (fun _ _ _ h => h) (Or.inl ⟨by rfl, ?_⟩) Sa ?_
      rotate_left 1
      · intro w hSw; obtain ⟨_, s0, s1, s2, s3, s4⟩ := hSw; go_simp <;> with_reducible rfl
      try simp only [List.getElem_toArray, List.getElem_cons_succ, List.getElem_cons_zero, Act.put, List.setIfInBounds_toArray, List.set_cons_zero, List.set_cons_succ]
      refine wpAnyH_ready (rs := [7]) (by kernel_rfl) (by simp) ?_
      refine AllReadyH.cons rfl (fun K hK => ?_) AllReadyH.nil
      go_simp
      (with_reducible refine (V2.out _).mono ?_)
      rintro e wb ⟨rfl, bb⟩
      have Sb : Five w1.heap.size f1 wb := Five.after bb Sa
      go_wp2_with fail
      refine hK.out _ _ Sb (fun _ => ?_)
      clear hK K
      try simp only [List.getElem_toArray, List.getElem_cons_succ, List.getElem_cons_zero, Act.put, List.setIfInBounds_toArray, List.set_cons_zero, List.set_cons_succ]
      refine wpAnyH_ready (rs := [9]) (by kernel_rfl) (by simp) ?_
      refine AllReadyH.cons rfl (fun K hK => ?_) AllReadyH.nil
      go_simp
      (with_reducible refine (IA.out _).mono ?_)
      rintro e wc ⟨rfl, bc⟩
      have Sc : Five w1.heap.size f1 wc := Five.after bc Sb
      go_wp2_with fail
      refine hK.out _ _ Sc (fun _ => ?_)
      clear hK K
      try simp only [List.getElem_toArray, List.getElem_cons_succ, List.getElem_cons_zero, Act.put, List.setIfInBounds_toArray, List.set_cons_zero, List.set_cons_succ]
      refine wpAnyH_take (i := 10) (v := ?_) rfl (by kernel_rfl) (by kernel_rfl) (by kernel_rfl) (fun _ _ _ h => h) (Or.inl ⟨by rfl, ?_⟩) Sc ?_
      rotate_left 1
      · intro w hSw; go_simp <;> with_reducible rfl
      try simp only [List.getElem_toArray, List.getElem_cons_succ, List.getElem_cons_zero, Act.put, List.setIfInBounds_toArray, List.set_cons_zero, List.set_cons_succ]
      refine wpAnyH_take (i := 11) (v := ?_) rfl (by kernel_rfl) (by kernel_rfl) (by kernel_rfl) (fun _ _ _ h => h) (Or.inl ⟨by rfl, ?_⟩) Sc ?_
      rotate_left 1
      · intro w hSw; go_simp <;> with_reducible rfl
      try simp only [List.getElem_toArray, List.getElem_cons_succ, List.getElem_cons_zero, Act.put, List.setIfInBounds_toArray, List.set_cons_zero, List.set_cons_succ]
      refine wpAnyH_take (i := 12) (v := undef) rfl (by kernel_rfl) (by kernel_rfl) (by kernel_rfl) (fun _ _ _ h => h) (Or.inr ⟨by rfl, rfl⟩) Sc ?_
      try simp only [List.getElem_toArray, List.getElem_cons_succ, List.getElem_cons_zero, Act.put, List.setIfInBounds_toArray, List.set_cons_zero, List.set_cons_succ]
      refine wpAnyH_take (i := 13) (v := undef) rfl (by kernel_rfl) (by kernel_rfl) (by kernel_rfl) (fun _ _ _ h => h) (Or.inr ⟨by rfl, rfl⟩) Sc ?_
      try simp only [List.getElem_toArray, List.getElem_cons_succ, List.getElem_cons_zero, Act.put, List.setIfInBounds_toArray, List.set_cons_zero, List.set_cons_succ]
      refine wpAnyH_take (i := 14) (v := undef) rfl (by kernel_rfl) (by kernel_rfl) (by kernel_rfl) (fun _ _ _ h => h) (Or.inr ⟨by rfl, rfl⟩) Sc ?_
      try simp only [List.getElem_toArray, List.getElem_cons_succ, List.getElem_cons_zero, Act.put, List.setIfInBounds_toArray, List.set_cons_zero, List.set_cons_succ]
      refine wpAnyH_take (i := 15) (v := undef) rfl (by kernel_rfl) (by kernel_rfl) (by kernel_rfl) (fun _ _ _ h => h) (Or.inr ⟨by rfl, rfl⟩) Sc ?_
      try simp only [List.getElem_toArray, List.getElem_cons_succ, List.getElem_cons_zero, Act.put, List.setIfInBounds_toArray, List.set_cons_zero, List.set_cons_succ]
      refine wpAnyH_take (i := 16) (v := ?_) rfl (by kernel_rfl) (by kernel_rfl) (by kernel_rfl) (fun _ _ _ h => h) (Or.inl ⟨by rfl, ?_⟩) Sc ?_
      rotate_left 1
      · intro w hSw; go_simp <;> with_reducible rfl
      try simp only [List.getElem_toArray, List.getElem_cons_succ, List.getElem_cons_zero, Act.put, List.setIfInBounds_toArray, List.set_cons_zero, List.set_cons_succ]
      refine wpAnyH_take (i := 17) (v := ?_) rfl (by kernel_rfl) (by kernel_rfl) (by kernel_rfl) (fun _ _ _ h => h) (Or.inl ⟨by rfl, ?_⟩) Sc ?_
      rotate_left 1
      · intro w hSw; go_simp <;> with_reducible rfl
      try simp only [List.getElem_toArray, List.getElem_cons_succ, List.getElem_cons_zero, Act.put, List.setIfInBounds_toArray, List.set_cons_zero, List.set_cons_succ]
      refine wpAnyH_done (by kernel_rfl) ?_ _
      go_wp2
      go_ret
      exact ⟨by rw [HN.out]; rfl, ((HBd.then ba).then bb).then bc⟩
    | true =>
      have HN : Hid (R = q2) := Lib.hid (by rw [HRR.out]; rfl)
      refine wp_region_held_drew (S := Five w1.heap.size f1) (by kernel_rfl) (show Five _ _ W1.drew from F1) (fun hH => ?_)
      have HBd := HB.drew
      refine wpAnyH_take (i := 0) (v := ?_) rfl (by kernel_rfl) (by kernel_rfl) (by kernel_rfl) (fun _ _ _ h => h) (Or.inl ⟨by rfl, ?_⟩) hH ?_
      rotate_left 1
      · intro w hSw; go_simp <;> with_reducible rfl
      try simp only [List.getElem_toArray, List.getElem_cons_succ, List.getElem_cons_zero, Act.put, List.setIfInBounds_toArray, List.set_cons_zero, List.set_cons_succ]
      refine wpAnyH_take (i := 1) (v := ?_) rfl (by kernel_rfl) (by kernel_rfl) (by kernel_rfl) (fun _ _ _ h => h) (Or.inl ⟨by rfl, ?_⟩) hH ?_
      rotate_left 1
      · intro w hSw; go_simp <;> with_reducible rfl
      try simp only [List.getElem_toArray, List.getElem_cons_succ, List.getElem_cons_zero, Act.put, List.setIfInBounds_toArray, List.set_cons_zero, List.set_cons_succ]
      refine wpAnyH_ready (rs := [2]) (by kernel_rfl) (by simp) ?_
      refine AllReadyH.cons rfl (fun K hK => ?_) AllReadyH.nil
      go_simp
      (with_reducible refine (FA.out _).mono ?_)
      rintro e wa ⟨rfl, ba⟩
      have Sa : Five w1.heap.size f1 wa := Five.after ba hH
      go_wp2_with fail
      refine hK.out _ _ Sa (fun _ => ?_)
      clear hK K
      try simp only [List.getElem_toArray, List.getElem_cons_succ, List.getElem_cons_zero, Act.put, List.setIfInBounds_toArray, List.set_cons_zero, List.set_cons_succ]
      refine wpAnyH_take (i := 3) (v := ?_) rfl (by kernel_rfl) (by kernel_rfl) (by kernel_rfl) (fun _ _ _ h => h) (Or.inl ⟨by rfl, ?_⟩) Sa ?_
      rotate_left 1
      · intro w hSw; go_simp <;> with_reducible rfl
      try simp only [List.getElem_toArray, List.getElem_cons_succ, List.getElem_cons_zero, Act.put, List.setIfInBounds_toArray, List.set_cons_zero, List.set_cons_succ]
      refine wpAnyH_take (i := 4) (v := ?_) rfl (by kernel_rfl) (by kernel_rfl) (by kernel_rfl) (fun _ _ _ h => h) (Or.inl ⟨by rfl, ?_⟩) Sa ?_
      rotate_left 1
      · intro w hSw; go_simp <;> with_reducible rfl
      try simp only [List.getElem_toArray, List.getElem_cons_succ, List.getElem_cons_zero, Act.put, List.setIfInBounds_toArray, List.set_cons_zero, List.set_cons_succ]
      refine wpAnyH_take (i := 5) (v := ?_) rfl (by kernel_rfl) (by kernel_rfl) (by kernel_rfl) (fun _ _ _ h => h) (Or.inl ⟨by rfl, ?_⟩) Sa ?_
      rotate_left 1
      · intro w hSw; go_simp <;> with_reducible rfl
      try simp only [List.getElem_toArray, List.getElem_cons_succ, List.getElem_cons_zero, Act.put, List.setIfInBounds_toArray, List.set_cons_zero, List.set_cons_succ]
      refine wpAnyH_take (i := 6) (v := ?_) rfl (by kernel_rfl) (by kernel_rfl) (by kernel_rfl) (fun _ _ _ h => h) (Or.inl ⟨by rfl, ?_⟩) Sa ?_
      rotate_left 1
      · intro w hSw; go_simp <;> with_reducible rfl
      try simp only [List.getElem_toArray, List.getElem_cons_succ, List.getElem_cons_zero, Act.put, List.setIfInBounds_toArray, List.set_cons_zero, List.set_cons_succ]
      refine wpAnyH_take (i := 8) (v := ?_) rfl (by kernel_rfl) (by kernel_rfl) (by kernel_rfl) (fun _ _ _ h => h) (Or.inl ⟨by rfl, ?_⟩) Sa ?_
      rotate_left 1
      · intro w hSw; obtain ⟨_, s0, s1, s2, s3, s4⟩ := hSw; go_simp <;> with_reducible rfl
      try simp only [List.getElem_toArray, List.getElem_cons_succ, List.getElem_cons_zero, Act.put, List.setIfInBounds_toArray, List.set_cons_zero, List.set_cons_succ]
      refine wpAnyH_ready (rs := [7]) (by kernel_rfl) (by simp) ?_
      refine AllReadyH.cons rfl (fun K hK => ?_) AllReadyH.nil
      go_simp
      (with_reducible refine (V2.out _).mono ?_)
      rintro e wb ⟨rfl, bb⟩
      have Sb : Five w1.heap.size f1 wb := Five.after bb Sa
      go_wp2_with fail
      refine hK.out _ _ Sb (fun _ => ?_)
      clear hK K
      try simp only [List.getElem_toArray, List.getElem_cons_succ, List.getElem_cons_zero, Act.put, List.setIfInBounds_toArray, List.set_cons_zero, List.set_cons_succ]
      refine wpAnyH_ready (rs := [9]) (by kernel_rfl) (by simp) ?_
      refine AllReadyH.cons rfl (fun K hK => ?_) AllReadyH.nil
      go_simp
      (with_reducible refine (IA.out _).mono ?_)
      rintro e wc ⟨rfl, bc⟩
      have Sc : Five w1.heap.size f1 wc := Five.after bc Sb
      go_wp2_with fail
      refine hK.out _ _ Sc (fun _ => ?_)
      clear hK K
      try simp only [List.getElem_toArray, List.getElem_cons_succ, List.getElem_cons_zero, Act.put, List.setIfInBounds_toArray, List.set_cons_zero, List.set_cons_succ]
      refine wpAnyH_take (i := 10) (v := ?_) rfl (by kernel_rfl) (by kernel_rfl) (by kernel_rfl) (fun _ _ _ h => h) (Or.inl ⟨by rfl, ?_⟩) Sc ?_
      rotate_left 1
      · intro w hSw; go_simp <;> with_reducible rfl
      try simp only [List.getElem_toArray, List.getElem_cons_succ, List.getElem_cons_zero, Act.put, List.setIfInBounds_toArray, List.set_cons_zero, List.set_cons_succ]
      refine wpAnyH_take (i := 11) (v := ?_) rfl (by kernel_rfl) (by kernel_rfl) (by kernel_rfl) (fun _ _ _ h => h) (Or.inl ⟨by rfl, ?_⟩) Sc ?_
      rotate_left 1
      · intro w hSw; go_simp <;> with_reducible rfl
      try simp only [List.getElem_toArray, List.getElem_cons_succ, List.getElem_cons_zero, Act.put, List.setIfInBounds_toArray, List.set_cons_zero, List.set_cons_succ]
      refine wpAnyH_take (i := 12) (v := ?_) rfl (by kernel_rfl) (by kernel_rfl) (by kernel_rfl) (fun _ _ _ h => h) (Or.inl ⟨by rfl, ?_⟩) Sc ?_
      rotate_left 1
      · intro w hSw; go_simp <;> with_reducible rfl
      try simp only [List.getElem_toArray, List.getElem_cons_succ, List.getElem_cons_zero, Act.put, List.setIfInBounds_toArray, List.set_cons_zero, List.set_cons_succ]
      refine wpAnyH_take (i := 14) (v := ?_) rfl (by kernel_rfl) (by kernel_rfl) (by kernel_rfl) (fun _ _ _ h => h) (Or.inl ⟨by rfl, ?_⟩) Sc ?_
      rotate_left 1
      · intro w hSw; obtain ⟨_, s0, s1, s2, s3, s4⟩ := hSw; go_simp <;> with_reducible rfl
      try simp only [List.getElem_toArray, List.getElem_cons_succ, List.getElem_cons_zero, Act.put, List.setIfInBounds_toArray, List.set_cons_zero, List.set_cons_succ]
      refine wpAnyH_ready (rs := [13]) (by kernel_rfl) (by simp) ?_
      refine AllReadyH.cons rfl (fun K hK => ?_) AllReadyH.nil
      go_simp
      (with_reducible refine (V3.out _).mono ?_)
      rintro e wd ⟨rfl, bd⟩
      have Sd : Five w1.heap.size f1 wd := Five.after bd Sc
      go_wp2_with fail
      refine hK.out _ _ Sd (fun _ => ?_)
      clear hK K
      try simp only [List.getElem_toArray, List.getElem_cons_succ, List.getElem_cons_zero, Act.put, List.setIfInBounds_toArray, List.set_cons_zero, List.set_cons_succ]
      refine wpAnyH_ready (rs := [15]) (by kernel_rfl) (by simp) ?_
      refine AllReadyH.cons rfl (fun K hK => ?_) AllReadyH.nil
      go_simp
      (with_reducible refine (IB.out _).mono ?_)
      rintro e we ⟨rfl, be⟩
      have Se : Five w1.heap.size f1 we := Five.after be Sd
      go_wp2_with fail
      refine hK.out _ _ Se (fun _ => ?_)
      clear hK K
      try simp only [List.getElem_toArray, List.getElem_cons_succ, List.getElem_cons_zero, Act.put, List.setIfInBounds_toArray, List.set_cons_zero, List.set_cons_succ]
      refine wpAnyH_take (i := 16) (v := ?_) rfl (by kernel_rfl) (by kernel_rfl) (by kernel_rfl) (fun _ _ _ h => h) (Or.inl ⟨by rfl, ?_⟩) Se ?_
      rotate_left 1
      · intro w hSw; go_simp <;> with_reducible rfl
      try simp only [List.getElem_toArray, List.getElem_cons_succ, List.getElem_cons_zero, Act.put, List.setIfInBounds_toArray, List.set_cons_zero, List.set_cons_succ]
      refine wpAnyH_take (i := 17) (v := ?_) rfl (by kernel_rfl) (by kernel_rfl) (by kernel_rfl) (fun _ _ _ h => h) (Or.inl ⟨by rfl, ?_⟩) Se ?_
      rotate_left 1
      · intro w hSw; go_simp <;> with_reducible rfl
      try simp only [List.getElem_toArray, List.getElem_cons_succ, List.getElem_cons_zero, Act.put, List.setIfInBounds_toArray, List.set_cons_zero, List.set_cons_succ]
      refine wpAnyH_done (by kernel_rfl) ?_ _
      go_wp2
      go_ret
      exact ⟨by rw [HN.out]; rfl, ((((HBd.then ba).then bb).then bc).then bd).then be⟩

end Go.Proofs.Ytolboinemechpaa
