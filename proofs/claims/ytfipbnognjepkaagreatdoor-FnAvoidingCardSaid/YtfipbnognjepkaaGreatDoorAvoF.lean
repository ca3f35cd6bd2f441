/- The first word that avoids a pattern: the program. -/
import Derived.Test.YtfipbnognjepkaaGreatDoorAvoC
namespace Go.Proofs.YtfipbnognjepkaaGreatDoor
set_option linter.unusedVariables false
set_option linter.unusedSimpArgs false
open Go.RowKit Go.Shelf
attribute [local go_sem] Oper.semAt_some

/-- What a search for the first word comes to. -/
def fstA : List (List UInt8) → ByteArray × Bool
  | [] => (⟨#[]⟩, false)
  | s :: _ => (bt s, true)

theorem results_boxesA {fn : Func} {t u : Tmp} {ty ty2 : TypeId} (h : fn.results = #[.cell t ty, .cell u ty2]) {tmps : Array Value} {P : Program} {W : World} {b1 b2 : Nat} {v1 v2 : Value}
    (h1 : tmps[t]?.getD undef = .pointer (some ⟨b1, 0, none⟩)) (h2 : tmps[u]?.getD undef = .pointer (some ⟨b2, 0, none⟩)) (g1 : ∀ w, (isAgg ty).run P w = .ok false w) (g2 : ∀ w, (isAgg ty2).run P w = .ok false w) (c1 : W.cell? ⟨b1, 0, none⟩ = some v1) (c2 : W.cell? ⟨b2, 0, none⟩ = some v2) :
    (results fn tmps).run P W = .ok (.tuple #[v1, v2]) W := by
  simp [results, h, h1, h2, go_sem, g1, g2, c1, c2, asAddr]

/-- Both boxes of the results are written. -/
theorem two_setA {w W : World} {b : Nat} {t u : TypeId} {v v' x x' : Value} (v2 : Boxed W b t v) (v3 : Boxed W (b + 1) u v') (hB : Below w.heap.size w W) (hb : w.heap.size ≤ b) :
    Boxed ((W.setCell ⟨b, 0, none⟩ x).setCell ⟨b + 1, 0, none⟩ x') b t x ∧ Boxed ((W.setCell ⟨b, 0, none⟩ x).setCell ⟨b + 1, 0, none⟩ x') (b + 1) u x' ∧ Below w.heap.size w ((W.setCell ⟨b, 0, none⟩ x).setCell ⟨b + 1, 0, none⟩ x') ∧
    (∀ B, b + 1 < B → KeepUp B W ((W.setCell ⟨b, 0, none⟩ x).setCell ⟨b + 1, 0, none⟩ x')) ∧ ∀ D, D < W.heap.size → D ≠ b → D ≠ b + 1 → ((W.setCell ⟨b, 0, none⟩ x).setCell ⟨b + 1, 0, none⟩ x').heap[D]? = W.heap[D]? := by
  refine ⟨(v2.set _).kept (grownBy_setCell' _ _ _) (fun e => by have := Option.some.inj e; omega), (v3.kept (grownBy_setCell' _ _ _) (fun e => by have := Option.some.inj e; omega)).set _, (hB.setCell (p := ⟨b, 0, none⟩) hb _).setCell (p := ⟨b + 1, 0, none⟩) (by show w.heap.size ≤ b + 1; omega) _, fun B h => (KeepUp.setA _ _ (by omega)).trans (KeepUp.setA _ _ h), fun D h1 h2 h3 => ?_⟩
  rw [(grownBy_setCell' _ _ _).block D (by simpa [World.setCell] using h1) (fun e => by have := Option.some.inj e; omega), (grownBy_setCell' _ _ _).block D h1 (fun e => by have := Option.some.inj e; omega)]

set_option maxRecDepth 100000 in
set_option maxHeartbeats 4000000 in
theorem firstAvoiding_ok (p : ByteArray) (k m : Nat) (w : World) (hp : IsP p) (hm : m ≤ 12) (hk1 : 1 ≤ k) (hk2 : k ≤ 3) (R : ByteArray × Bool) (hR : R = fstA (avW (bl p) k m [])) :
    CallsIn Fence.wide 4 Tryz.prog 56 #[.string p, .int .i64 (k : Int), .int .i64 (m : Int)] w fun e w' => e = .returned (.tuple #[.string R.1, .bool R.2]) ∧ Below w.heap.size w w' := by
  have HRR := Lib.hid hR
  have HP := Lib.hid hp
  clear hR hp
  refine callsIn_of_wp_marks Tryz.func56 rfl trivial ?_ rfl
  simp only [Tryz.ntmps56, List.size_toArray, List.length_cons, List.length_nil, Nat.reduceAdd, Nat.reduceSub, Array.replicate_succ, Array.replicate_zero, List.push_toArray, List.append_toArray, List.nil_append, List.cons_append]
  gi_wp2_with (refine ⟨trivial, ?_⟩; gi_at_call 61; refine (avoidingWords_in _ _ _ _ _).mono ?_; rintro e w3 ⟨rfl, rfl⟩)
  have p0 : Boxed (((((w.alloc (.cells #[.string ⟨#[]⟩] 9)).alloc (.cells #[.bool false] 4)).alloc (.cells #[.string p] 9)).alloc (.cells #[.int .i64 (k : Int)] 2)).alloc (.cells #[.int .i64 (m : Int)] 2)) w.heap.size 9 (.string ⟨#[]⟩) := ((((Boxed.new w _ _).alloc _).alloc _).alloc _).alloc _
  have p1 : Boxed (((((w.alloc (.cells #[.string ⟨#[]⟩] 9)).alloc (.cells #[.bool false] 4)).alloc (.cells #[.string p] 9)).alloc (.cells #[.int .i64 (k : Int)] 2)).alloc (.cells #[.int .i64 (m : Int)] 2)) (w.heap.size + 1) 4 (.bool false) := by
    have := Boxed.new (w.alloc (.cells #[.string ⟨#[]⟩] 9)) 4 (.bool false)
    rw [World.size_alloc] at this
    exact ((this.alloc _).alloc _).alloc _
  have q1 : Boxed (((((w.alloc (.cells #[.string ⟨#[]⟩] 9)).alloc (.cells #[.bool false] 4)).alloc (.cells #[.string p] 9)).alloc (.cells #[.int .i64 (k : Int)] 2)).alloc (.cells #[.int .i64 (m : Int)] 2)) (w.heap.size + 1 + 1) 9 (.string p) := by
    have := Boxed.new ((w.alloc (.cells #[.string ⟨#[]⟩] 9)).alloc (.cells #[.bool false] 4)) 9 (.string p)
    simp only [World.size_alloc] at this
    exact (this.alloc _).alloc _
  have q2 : Boxed (((((w.alloc (.cells #[.string ⟨#[]⟩] 9)).alloc (.cells #[.bool false] 4)).alloc (.cells #[.string p] 9)).alloc (.cells #[.int .i64 (k : Int)] 2)).alloc (.cells #[.int .i64 (m : Int)] 2)) (w.heap.size + 1 + 1 + 1) 2 (.int .i64 (k : Int)) := by
    have := Boxed.new (((w.alloc (.cells #[.string ⟨#[]⟩] 9)).alloc (.cells #[.bool false] 4)).alloc (.cells #[.string p] 9)) 2 (.int .i64 (k : Int))
    simp only [World.size_alloc] at this
    exact this.alloc _
  have q3 : Boxed (((((w.alloc (.cells #[.string ⟨#[]⟩] 9)).alloc (.cells #[.bool false] 4)).alloc (.cells #[.string p] 9)).alloc (.cells #[.int .i64 (k : Int)] 2)).alloc (.cells #[.int .i64 (m : Int)] 2)) (w.heap.size + 1 + 1 + 1 + 1) 2 (.int .i64 (m : Int)) := by
    have := Boxed.new ((((w.alloc (.cells #[.string ⟨#[]⟩] 9)).alloc (.cells #[.bool false] 4)).alloc (.cells #[.string p] 9)).alloc (.cells #[.int .i64 (k : Int)] 2)) 2 (.int .i64 (m : Int))
    simp only [World.size_alloc] at this
    exact this
  have hB0 : Below w.heap.size w (((((w.alloc (.cells #[.string ⟨#[]⟩] 9)).alloc (.cells #[.bool false] 4)).alloc (.cells #[.string p] 9)).alloc (.cells #[.int .i64 (k : Int)] 2)).alloc (.cells #[.int .i64 (m : Int)] 2)) := ((((Below.new _ _).alloc (by simp) _).alloc (by simp; omega) _).alloc (by simp; omega) _).alloc (by simp; omega) _
  have hs0 : (((((w.alloc (.cells #[.string ⟨#[]⟩] 9)).alloc (.cells #[.bool false] 4)).alloc (.cells #[.string p] 9)).alloc (.cells #[.int .i64 (k : Int)] 2)).alloc (.cells #[.int .i64 (m : Int)] 2)).heap.size = w.heap.size + 5 := by simp
  generalize hW0 : (((((w.alloc (.cells #[.string ⟨#[]⟩] 9)).alloc (.cells #[.bool false] 4)).alloc (.cells #[.string p] 9)).alloc (.cells #[.int .i64 (k : Int)] 2)).alloc (.cells #[.int .i64 (m : Int)] 2)) = W0 at p0 p1 q1 q2 q3 hB0 hs0 ⊢
  clear hW0
  refine wpIn_rangeFunc_up rfl (by decide) (gf := 122) (lb := #[.pointer (some ⟨w.heap.size + 1 + 1, 0, none⟩), .pointer (some ⟨w.heap.size + 1 + 1 + 1, 0, none⟩), .pointer (some ⟨w.heap.size + 1 + 1 + 1 + 1, 0, none⟩)]) rfl trivial (enters_of Tryz.func122 (by kernel_rfl) rfl)
    (avoid_up 3 (by decide) (w.heap.size + 1 + 1) (w.heap.size + 1 + 1 + 1) (w.heap.size + 1 + 1 + 1 + 1) p HP.out m k hm hk1 hk2 W0 q1 q2 q3) (Below.refl _ _) (by simp) (fun _ => rfl)
    (fun pre W => Hid (pre = []) ∧ Boxed W w.heap.size 9 (.string ⟨#[]⟩) ∧ Boxed W (w.heap.size + 1) 4 (.bool false) ∧ Below w.heap.size w W)
    (fun c pre W => c = .ret ∧ ∃ x : List UInt8, Hid (pre = [x]) ∧ Boxed W w.heap.size 9 (.string (bt x)) ∧ Boxed W (w.heap.size + 1) 4 (.bool true) ∧ Below w.heap.size w W)
    (fun s A B hs hb => ⟨hs.1, (hb.block _ (by omega)).trans hs.2.1, (hb.block _ (by omega)).trans hs.2.2.1, hs.2.2.2.trans (hb.mono (by omega))⟩)
    (fun c s A B hs hb => by
      obtain ⟨h1, x, h2, h3, h4, h5⟩ := hs
      exact ⟨h1, x, h2, (hb.block _ (by omega)).trans h3, (hb.block _ (by omega)).trans h4, h5.trans (hb.mono (by omega))⟩)
    ⟨Lib.hid rfl, p0, p1, hB0⟩
    (fun x => { tmps := #[.string p, .int .i64 (k : Int), .int .i64 (m : Int), undef, undef, undef, .pointer (some ⟨w.heap.size, 0, none⟩), .pointer (some ⟨w.heap.size + 1, 0, none⟩), .string (bt x), .string p, .int .i64 (k : Int), .int .i64 (m : Int), .func (.func 122) #[] #[.pointer (some ⟨w.heap.size + 1 + 1, 0, none⟩), .pointer (some ⟨w.heap.size + 1 + 1 + 1, 0, none⟩), .pointer (some ⟨w.heap.size + 1 + 1 + 1 + 1, 0, none⟩)], .string (bt x), undef], defers := [] }) ?assign ?body ?done ?stop
  case assign =>
    intro l x W K hK
    gi_wp2
    exact hK
  case body =>
    rintro l pre x W ⟨HPP, v2, v3, hB⟩ hlt hsz
    have c2 := v2.cell
    have c3 := v3.cell
    have f2 := v2.frozen
    have f3 := v3.frozen
    have l3 := v3.lt
    obtain ⟨t1, t2, t3, t4, t5⟩ := two_setA (x := .string (bt x)) (x' := .bool true) v2 v3 hB (Nat.le_refl _)
    have HT1 := Lib.hid t1
    have HT2 := Lib.hid t2
    clear t1 t2
    gi_wp2
    exact ⟨t4 _ (by omega), rfl, x, Lib.hid (by rw [HPP.out]; rfl), HT1.out, HT2.out, t3⟩
  case done =>
    rintro D ys W hD hys ⟨HPP, v2, v3, hB⟩ hK
    have hr : R = (⟨#[]⟩, false) := by
      rw [HRR.out, ← hys, HPP.out]; rfl
    subst hr
    have c2 := v2.cell
    have c3 := v3.cell
    have f2 := v2.frozen
    have f3 := v3.frozen
    have l3 := v3.lt
    have hDl := (Array.getElem?_eq_some_iff.1 hK).1
    obtain ⟨t1, t2, t3, t4, t5⟩ := two_setA (x := .string ⟨#[]⟩) (x' := .bool false) v2 v3 hB (Nat.le_refl _)
    have hK4 := (t5 D hDl (by omega) (by omega)).trans hK
    have HT1 := Lib.hid t1
    have HT2 := Lib.hid t2
    have HK4 := Lib.hid hK4
    have HK := Lib.hid hK
    clear t1 t2 hK4 hK t4 t5
    gi_wp2
    refine ⟨by simp, .inl ⟨_, _, rfl, run_takeDeferred HK4.out, ?_⟩⟩
    exact ⟨_, results_boxesA Tryz.results56 rfl rfl Tryz.isAgg9 Tryz.isAgg4 (HT1.out.kept (grownBy_putObj' _ _ _) (fun e => by have := Option.some.inj e; omega)).cell (HT2.out.kept (grownBy_putObj' _ _ _) (fun e => by have := Option.some.inj e; omega)).cell, rfl, t3.trans (belowK_b (w := w) (Nat.le_refl _) _ D _ _ (by omega) HK4.out rfl rfl)⟩
  case stop =>
    rintro D c pre W hD ⟨hne, t, ht⟩ ⟨rfl, x, HX, v2, v3, hB⟩ hK
    have hr : R = (bt x, true) := by
      rw [HRR.out, ← ht, HX.out]; rfl
    subst hr
    have l3 := v3.lt
    gi_wp2
    refine ⟨by simp, .inl ⟨_, _, rfl, run_takeDeferred hK, ?_⟩⟩
    exact ⟨_, results_boxesA Tryz.results56 rfl rfl Tryz.isAgg9 Tryz.isAgg4 (v2.kept (grownBy_putObj' _ _ _) (fun e => by have := Option.some.inj e; omega)).cell (v3.kept (grownBy_putObj' _ _ _) (fun e => by have := Option.some.inj e; omega)).cell, rfl, hB.trans (belowK_b (w := w) (Nat.le_refl _) _ D _ _ (by omega) hK rfl rfl)⟩

theorem firstAvoiding_any (p : ByteArray) (k m : Nat) (w : World) (hp : IsP p) (hm : m ≤ 12) (hk1 : 1 ≤ k) (hk2 : k ≤ 3) :
    Calls Tryz.prog 56 #[.string p, .int .i64 (k : Int), .int .i64 (m : Int)] w fun e w' => e = .returned (.tuple #[.string (fstA (avW (bl p) k m [])).1, .bool (fstA (avW (bl p) k m [])).2]) ∧ Below w.heap.size w w' :=
  callsIn_wide.1 (firstAvoiding_ok p k m w hp hm hk1 hk2 _ rfl)

noncomputable def firstAvR (p : ByteArray) (k n : Int) : ByteArray × Int := if IsP p then (if 1 ≤ k ∧ k ≤ 3 ∧ 0 ≤ n ∧ n ≤ 12 then headR (avW (bl p) k.toNat n.toNat []) else (⟨#[]⟩, 2)) else (⟨#[]⟩, 1)
theorem firstAvR_bad {p : ByteArray} (k n : Int) (h : ¬ IsP p) : firstAvR p k n = (⟨#[]⟩, 1) := if_neg h
theorem firstAvR_out {p : ByteArray} {k n : Int} (h : IsP p) (h2 : ¬ (1 ≤ k ∧ k ≤ 3 ∧ 0 ≤ n ∧ n ≤ 12)) : firstAvR p k n = (⟨#[]⟩, 2) := by unfold firstAvR; rw [if_pos h, if_neg h2]
theorem firstAvR_ok {p : ByteArray} {k n : Nat} (h : IsP p) (h1 : 1 ≤ k) (h2 : k ≤ 3) (h3 : n ≤ 12) : firstAvR p (k : Int) (n : Int) = headR (avW (bl p) k n []) := by unfold firstAvR; rw [if_pos h, if_pos (by omega)]; rfl

set_option maxRecDepth 100000 in
set_option maxHeartbeats 2000000 in
theorem FirstAvoiding1_any (b1 b2 b3 : Nat) (p : ByteArray) (k n : Int) (w : World) (c1 : Boxed w b1 9 (.string p)) (c2 : Boxed w b2 2 (.int .i64 k)) (c3 : Boxed w b3 2 (.int .i64 n)) (sp : p.size ≤ maxLen) :
    Calls Tryz.prog 54 #[.pointer (some ⟨b1, 0, none⟩), .pointer (some ⟨b2, 0, none⟩), .pointer (some ⟨b3, 0, none⟩)] w fun e w' => EndT (firstAvR p k n) e ∧ Below w.heap.size w w' := by
  have k1 := c1.cell
  have k2 := c2.cell
  have k3 := c3.cell
  have l1 := c1.lt
  have l2 := c2.lt
  have l3 := c3.lt
  by_cases hp : IsP p
  · by_cases h : 1 ≤ k ∧ k ≤ 3 ∧ 0 ≤ n ∧ n ≤ 12
    · obtain ⟨a, rfl⟩ := Int.eq_ofNat_of_zero_le (show 0 ≤ k by omega)
      obtain ⟨b, rfl⟩ := Int.eq_ofNat_of_zero_le (show 0 ≤ n by omega)
      rw [firstAvR_ok hp (by omega) (by omega) (by omega)]
      have HP := Lib.hid hp
      have CF := Lib.hid (fun W => firstAvoiding_any p a b W hp (by omega) (by omega) (by omega))
      generalize avW (bl p) a b [] = D at *
      have g1 : (1 : Int) ≤ (a : Int) := by omega
      have g2 : (a : Int) ≤ 3 := by omega
      have g3 : (0 : Int) ≤ (b : Int) := by omega
      have g4 : (b : Int) ≤ 12 := by omega
      clear hp sp h
      cases D with
      | nil =>
        go_enter Tryz.func54, Tryz.ntmps54
        go_wp2_with (first | (go_at_call 21; (with_reducible refine (isPattern_yes p HP.out _).mono ?_); rintro e w1 ⟨rfl, a1⟩; have k4 := (boxed_past c1 a1 l1).cell; have k5 := (boxed_past c2 a1 l2).cell; have k6 := (boxed_past c3 a1 l3).cell) | (go_at_call 55; first | ((with_reducible refine (refuse_yes _ _).mono ?_); rintro e w3 ⟨rfl, rfl⟩) | ((with_reducible refine (refuse_no _ _).mono ?_); rintro e w3 ⟨rfl, rfl⟩)) | (go_at_call 56; refine (CF.out _).mono ?_; rintro e w5 ⟨rfl, a5⟩; simp only [fstA]))
        exact ⟨rfl, .inr ⟨rfl, rfl⟩, a1.then a5⟩
      | cons s D =>
        go_enter Tryz.func54, Tryz.ntmps54
        go_wp2_with (first | (go_at_call 21; (with_reducible refine (isPattern_yes p HP.out _).mono ?_); rintro e w1 ⟨rfl, a1⟩; have k4 := (boxed_past c1 a1 l1).cell; have k5 := (boxed_past c2 a1 l2).cell; have k6 := (boxed_past c3 a1 l3).cell) | (go_at_call 55; first | ((with_reducible refine (refuse_yes _ _).mono ?_); rintro e w3 ⟨rfl, rfl⟩) | ((with_reducible refine (refuse_no _ _).mono ?_); rintro e w3 ⟨rfl, rfl⟩)) | (go_at_call 56; refine (CF.out _).mono ?_; rintro e w5 ⟨rfl, a5⟩; simp only [fstA]))
        go_ret
        exact ⟨.inl ⟨rfl, rfl⟩, a1.then a5⟩
    · rw [firstAvR_out hp h]
      have HP := Lib.hid hp
      clear hp sp
      rcases (show ¬ 1 ≤ k ∨ (1 ≤ k ∧ ¬ k ≤ 3) ∨ (1 ≤ k ∧ k ≤ 3 ∧ ¬ 0 ≤ n) ∨ (1 ≤ k ∧ k ≤ 3 ∧ 0 ≤ n ∧ ¬ n ≤ 12) by omega) with g1 | ⟨g1, g2⟩ | ⟨g1, g2, g3⟩ | ⟨g1, g2, g3, g4⟩
      all_goals
        clear h
        try have g5 := decide_eq_false g4
        go_enter Tryz.func54, Tryz.ntmps54
        go_wp2_with (first | (go_at_call 21; (with_reducible refine (isPattern_yes p HP.out _).mono ?_); rintro e w1 ⟨rfl, a1⟩; have k4 := (boxed_past c1 a1 l1).cell; have k5 := (boxed_past c2 a1 l2).cell; have k6 := (boxed_past c3 a1 l3).cell) | (go_at_call 55; first | ((with_reducible refine (refuse_yes _ _).mono ?_); rintro e w3 ⟨rfl, rfl⟩) | ((with_reducible refine (refuse_no _ _).mono ?_); rintro e w3 ⟨rfl, rfl⟩)))
        exact ⟨rfl, .inr ⟨rfl, rfl⟩, a1⟩
  · rw [firstAvR_bad k n hp]
    have HP := Lib.hid hp
    have SP := Lib.hid sp
    clear hp sp
    go_enter Tryz.func54, Tryz.ntmps54
    go_wp2_with (first | (go_at_call 21; (with_reducible refine (isPattern_no p SP.out HP.out _).mono ?_); rintro e w1 ⟨rfl, a1⟩) | (go_at_call 55; first | ((with_reducible refine (refuse_yes _ _).mono ?_); rintro e w3 ⟨rfl, rfl⟩) | ((with_reducible refine (refuse_no _ _).mono ?_); rintro e w3 ⟨rfl, rfl⟩)))
    exact ⟨rfl, .inr ⟨rfl, rfl⟩, a1⟩

set_option maxRecDepth 100000 in
set_option maxHeartbeats 1000000 in
theorem impl_FirstAvoiding (p : ByteArray) (k n : Int) (w : World) (sp : p.size ≤ maxLen) :
    Calls Tryz.prog 7 #[.string p, .int .i64 k, .int .i64 n] w fun e w' => e = .returned (.tuple #[.string (firstAvR p k n).1, .int .i64 (firstAvR p k n).2]) ∧ Below w.heap.size w w' := by
  have c1 : Boxed (((w.alloc (.cells #[.string p] 9)).alloc (.cells #[.int .i64 k] 2)).alloc (.cells #[.int .i64 n] 2)) w.heap.size 9 (.string p) := ((Boxed.new w _ _).alloc _).alloc _
  have c2 : Boxed (((w.alloc (.cells #[.string p] 9)).alloc (.cells #[.int .i64 k] 2)).alloc (.cells #[.int .i64 n] 2)) (w.heap.size + 1) 2 (.int .i64 k) := by
    have h := Boxed.new (w.alloc (.cells #[.string p] 9)) 2 (.int .i64 k)
    rw [World.size_alloc] at h
    exact h.alloc _
  have c3 : Boxed (((w.alloc (.cells #[.string p] 9)).alloc (.cells #[.int .i64 k] 2)).alloc (.cells #[.int .i64 n] 2)) (w.heap.size + 1 + 1) 2 (.int .i64 n) := by
    have h := Boxed.new ((w.alloc (.cells #[.string p] 9)).alloc (.cells #[.int .i64 k] 2)) 2 (.int .i64 n)
    simp only [World.size_alloc] at h
    exact h
  have C1 := Lib.hid (c1.alloc (.cells #[.int .i64 0] 2))
  have C2 := Lib.hid (c2.alloc (.cells #[.int .i64 0] 2))
  have C3 := Lib.hid (c3.alloc (.cells #[.int .i64 0] 2))
  clear c1 c2 c3
  go_enter Tryz.func7, Tryz.ntmps7
  go_wp2_with (go_at_call 53; refine (door_text 54 _ _ (firstAvR p k n) (enters_of Tryz.func54 (by kernel_rfl) rfl) (FirstAvoiding1_any w.heap.size (w.heap.size + 1) (w.heap.size + 1 + 1) p k n _ C1.out C2.out C3.out sp)).mono ?_; rintro e w1 ⟨rfl, b1⟩)
  go_ret2
  exact ⟨rfl, (((Below.new w _).alloc (by simp) _).alloc (by simp; omega) _).then b1⟩

end Go.Proofs.YtfipbnognjepkaaGreatDoor
