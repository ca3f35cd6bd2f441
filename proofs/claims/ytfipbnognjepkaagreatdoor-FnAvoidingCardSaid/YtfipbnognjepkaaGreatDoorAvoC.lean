/- The number of the words that avoid a pattern: the program. -/
import Derived.Test.YtfipbnognjepkaaGreatDoorAvoU
import Derived.Test.YtfipbnognjepkaaGreatDoorDoorN
import Derived.Test.YtfipbnognjepkaaGreatDoorWord
import Derived.Test.YtfipbnognjepkaaGreatDoorPatT
namespace Go.Proofs.YtfipbnognjepkaaGreatDoor
set_option linter.unusedVariables false
set_option linter.unusedSimpArgs false
open Go.RowKit Go.Shelf
attribute [local go_sem] Oper.semAt_some

noncomputable def countAvR (p : ByteArray) (k n : Int) : Int × Int := if IsP p then (if 1 ≤ k ∧ k ≤ 3 ∧ 0 ≤ n ∧ n ≤ 9 then (((avW (bl p) k.toNat n.toNat []).length : Int), 0) else (0, 2)) else (0, 1)
theorem countAvR_bad {p : ByteArray} (k n : Int) (h : ¬ IsP p) : countAvR p k n = (0, 1) := if_neg h
theorem countAvR_out {p : ByteArray} {k n : Int} (h : IsP p) (h2 : ¬ (1 ≤ k ∧ k ≤ 3 ∧ 0 ≤ n ∧ n ≤ 9)) : countAvR p k n = (0, 2) := by unfold countAvR; rw [if_pos h, if_neg h2]
theorem countAvR_ok {p : ByteArray} {k n : Nat} (h : IsP p) (h1 : 1 ≤ k) (h2 : k ≤ 3) (h3 : n ≤ 9) : countAvR p (k : Int) (n : Int) = (((avW (bl p) k n []).length : Int), 0) := by unfold countAvR; rw [if_pos h, if_pos (by omega)]; rfl

set_option maxRecDepth 100000 in
set_option maxHeartbeats 4000000 in
theorem count1_ok (b1 b2 b3 : Nat) (p : ByteArray) (k m : Nat) (w : World) (hp : IsP p) (hm : m ≤ 9) (hk1 : 1 ≤ k) (hk2 : k ≤ 3) (c1 : Boxed w b1 9 (.string p)) (c2 : Boxed w b2 2 (.int .i64 (k : Int))) (c3 : Boxed w b3 2 (.int .i64 (m : Int))) :
    CallsIn Fence.wide 4 Tryz.prog 60 #[.pointer (some ⟨b1, 0, none⟩), .pointer (some ⟨b2, 0, none⟩), .pointer (some ⟨b3, 0, none⟩)] w fun e w' => e = .returned (.int .i64 ((avW (bl p) k m []).length : Int)) ∧ Below w.heap.size w w' := by
  have hlen : (avW (bl p) k m []).length ≤ 531441 := Nat.le_trans (avW_len _ k m []) (pow_av hk2 (by omega))
  have k1 := c1.cell
  have k2 := c2.cell
  have k3 := c3.cell
  have l1 := c1.lt
  have l2 := c2.lt
  have l3 := c3.lt
  have HP := Lib.hid hp
  clear hp
  refine callsIn_of_wp_marks Tryz.func60 rfl trivial ?_ rfl
  simp only [Tryz.ntmps60, List.size_toArray, List.length_cons, List.length_nil, Nat.reduceAdd, Nat.reduceSub, Array.replicate_succ, Array.replicate_zero, List.push_toArray, List.append_toArray, List.nil_append, List.cons_append]
  have g1 : (1 : Int) ≤ (k : Int) := by omega
  have g2 : (k : Int) ≤ 3 := by omega
  have g3 : (0 : Int) ≤ (m : Int) := by omega
  have g4 : (m : Int) ≤ 9 := by omega
  gi_wp2_with (first | (refine ⟨trivial, ?_⟩; gi_at_call 21; refine (callsIn_wide.2 (isPattern_yes p HP.out _)).mono ?_; rintro e w1 ⟨rfl, a1⟩; have d1 := boxed_past c1 a1 l1; have d2 := boxed_past c2 a1 l2; have d3 := boxed_past c3 a1 l3; have k4 := d1.cell; have k5 := d2.cell; have k6 := d3.cell; have hs1 := a1.size; have d4 := d1.alloc (.cells #[.int .i64 0] 2); have d5 := d2.alloc (.cells #[.int .i64 0] 2); have d6 := d3.alloc (.cells #[.int .i64 0] 2); have k7 := d4.cell; have k8 := d5.cell; have k9 := d6.cell) | (refine ⟨trivial, ?_⟩; gi_at_call 55; refine (callsIn_wide.2 (refuse_yes _ _)).mono ?_; rintro e w2 ⟨rfl, rfl⟩) | (refine ⟨trivial, ?_⟩; gi_at_call 61; refine (avoidingWords_in _ _ _ _ _).mono ?_; rintro e w3 ⟨rfl, rfl⟩))
  clear d4 d5 d6 k1 k2 k3 k4 k5 k6 k7 k8 k9
  have p0 : Boxed ((((w2.alloc (.cells #[.int .i64 0] 2)).alloc (.cells #[.string p] 9)).alloc (.cells #[.int .i64 (k : Int)] 2)).alloc (.cells #[.int .i64 (m : Int)] 2)) w2.heap.size 2 (.int .i64 0) := (((Boxed.new w2 _ _).alloc _).alloc _).alloc _
  have q1 : Boxed ((((w2.alloc (.cells #[.int .i64 0] 2)).alloc (.cells #[.string p] 9)).alloc (.cells #[.int .i64 (k : Int)] 2)).alloc (.cells #[.int .i64 (m : Int)] 2)) (w2.heap.size + 1) 9 (.string p) := by
    have := Boxed.new (w2.alloc (.cells #[.int .i64 0] 2)) 9 (.string p)
    simp only [World.size_alloc] at this
    exact (this.alloc _).alloc _
  have q2 : Boxed ((((w2.alloc (.cells #[.int .i64 0] 2)).alloc (.cells #[.string p] 9)).alloc (.cells #[.int .i64 (k : Int)] 2)).alloc (.cells #[.int .i64 (m : Int)] 2)) (w2.heap.size + 1 + 1) 2 (.int .i64 (k : Int)) := by
    have := Boxed.new ((w2.alloc (.cells #[.int .i64 0] 2)).alloc (.cells #[.string p] 9)) 2 (.int .i64 (k : Int))
    simp only [World.size_alloc] at this
    exact this.alloc _
  have q3 : Boxed ((((w2.alloc (.cells #[.int .i64 0] 2)).alloc (.cells #[.string p] 9)).alloc (.cells #[.int .i64 (k : Int)] 2)).alloc (.cells #[.int .i64 (m : Int)] 2)) (w2.heap.size + 1 + 1 + 1) 2 (.int .i64 (m : Int)) := by
    have := Boxed.new (((w2.alloc (.cells #[.int .i64 0] 2)).alloc (.cells #[.string p] 9)).alloc (.cells #[.int .i64 (k : Int)] 2)) 2 (.int .i64 (m : Int))
    simp only [World.size_alloc] at this
    exact this
  have hB0 : Below w2.heap.size w2 ((((w2.alloc (.cells #[.int .i64 0] 2)).alloc (.cells #[.string p] 9)).alloc (.cells #[.int .i64 (k : Int)] 2)).alloc (.cells #[.int .i64 (m : Int)] 2)) := (((Below.new _ _).alloc (by simp) _).alloc (by simp; omega) _).alloc (by simp; omega) _
  have hs0 : ((((w2.alloc (.cells #[.int .i64 0] 2)).alloc (.cells #[.string p] 9)).alloc (.cells #[.int .i64 (k : Int)] 2)).alloc (.cells #[.int .i64 (m : Int)] 2)).heap.size = w2.heap.size + 4 := by simp
  have hBw : Below w.heap.size w ((((w2.alloc (.cells #[.int .i64 0] 2)).alloc (.cells #[.string p] 9)).alloc (.cells #[.int .i64 (k : Int)] 2)).alloc (.cells #[.int .i64 (m : Int)] 2)) := a1.trans (hB0.mono hs1)
  generalize hW0 : ((((w2.alloc (.cells #[.int .i64 0] 2)).alloc (.cells #[.string p] 9)).alloc (.cells #[.int .i64 (k : Int)] 2)).alloc (.cells #[.int .i64 (m : Int)] 2)) = W0 at p0 q1 q2 q3 hB0 hBw hs0 ⊢
  clear hW0 hB0
  generalize w2.heap.size = b at p0 q1 q2 q3 hs0 hs1 ⊢
  refine wpIn_rangeFunc_up rfl (by decide) (gf := 122) (lb := #[.pointer (some ⟨b + 1, 0, none⟩), .pointer (some ⟨b + 1 + 1, 0, none⟩), .pointer (some ⟨b + 1 + 1 + 1, 0, none⟩)]) rfl trivial (enters_of Tryz.func122 (by kernel_rfl) rfl)
    (avoid_up 3 (by decide) (b + 1) (b + 1 + 1) (b + 1 + 1 + 1) p HP.out m k (by omega) hk1 hk2 W0 q1 q2 q3) (Below.refl _ _) (by simp) (fun _ => rfl)
    (fun pre W => Boxed W b 2 (.int .i64 (pre.length : Int)) ∧ Below w.heap.size w W)
    (fun _ _ _ => False)
    (fun s A B hs hb => ⟨(hb.block _ (by omega)).trans hs.1, hs.2.trans (hb.mono (by omega))⟩)
    (fun _ _ _ _ hs _ => hs)
    ⟨p0, hBw⟩
    (fun x => { tmps := #[.pointer (some ⟨b1, 0, none⟩), .pointer (some ⟨b2, 0, none⟩), .pointer (some ⟨b3, 0, none⟩), .int .i64 0, .pointer (some ⟨b, 0, none⟩), .string p, .bool true, .tuple #[], .int .i64 (k : Int), .bool true, .bool true, .int .i64 (k : Int), .bool true, .bool true, .bool true, .int .i64 (m : Int), .bool true, .bool true, .bool true, .int .i64 (m : Int), .bool true, .bool true, .tuple #[], .string p, .int .i64 (k : Int), .int .i64 (m : Int), .func (.func 122) #[] #[.pointer (some ⟨b + 1, 0, none⟩), .pointer (some ⟨b + 1 + 1, 0, none⟩), .pointer (some ⟨b + 1 + 1 + 1, 0, none⟩)], .string (bt x), undef, undef, undef], defers := [] }) ?assign ?body ?done ?stop
  case assign =>
    intro l x W K hK
    refine wpIn_skip ?_
    simpa [Exit.then] using hK
  case body =>
    rintro l pre x W ⟨hv, hB⟩ hlt hsz
    have hc := hv.cell
    have hfz := hv.frozen
    have hpl : (pre.length : Int) ≤ 531441 := by omega
    gi_wp2
    refine ⟨KeepUp.setA W _ (by omega), fun b hb => (by cases hb), ?_, ?_⟩
    · have := hv.set (.int .i64 ((pre.length : Int) + 1))
      rw [List.length_append]
      exact this
    · exact hB.setCell (by show w.heap.size ≤ b; omega) _
  case done =>
    rintro D ys W hD rfl ⟨hv, hB⟩ hK
    have hc := hv.cell
    gi_wp2
    refine ⟨by simp, .inl ⟨_, _, rfl, run_takeDeferred hK, ?_⟩⟩
    exact ⟨_, results_tmp rfl _ _ _, rfl, hB.trans (belowK_b (w := w) (Nat.le_refl _) W D _ _ (by omega) hK rfl rfl)⟩
  case stop =>
    rintro D c pre W _ _ h _
    exact h.elim

set_option maxRecDepth 100000 in
set_option maxHeartbeats 2000000 in
theorem CountAvoiding1_any (b1 b2 b3 : Nat) (p : ByteArray) (k n : Int) (w : World) (c1 : Boxed w b1 9 (.string p)) (c2 : Boxed w b2 2 (.int .i64 k)) (c3 : Boxed w b3 2 (.int .i64 n)) (sp : p.size ≤ maxLen) :
    Calls Tryz.prog 60 #[.pointer (some ⟨b1, 0, none⟩), .pointer (some ⟨b2, 0, none⟩), .pointer (some ⟨b3, 0, none⟩)] w fun e w' => EndN (countAvR p k n) e ∧ Below w.heap.size w w' := by
  have k1 := c1.cell
  have k2 := c2.cell
  have k3 := c3.cell
  have l1 := c1.lt
  have l2 := c2.lt
  have l3 := c3.lt
  by_cases hp : IsP p
  · by_cases h : 1 ≤ k ∧ k ≤ 3 ∧ 0 ≤ n ∧ n ≤ 9
    · obtain ⟨a, rfl⟩ := Int.eq_ofNat_of_zero_le (show 0 ≤ k by omega)
      obtain ⟨b, rfl⟩ := Int.eq_ofNat_of_zero_le (show 0 ≤ n by omega)
      rw [countAvR_ok hp (by omega) (by omega) (by omega)]
      exact (callsIn_wide.1 (count1_ok b1 b2 b3 p a b w hp (by omega) (by omega) (by omega) c1 c2 c3)).mono (fun e w' h => ⟨.inl ⟨h.1, rfl⟩, h.2⟩)
    · rw [countAvR_out hp h]
      have HP := Lib.hid hp
      clear hp sp
      rcases (show ¬ 1 ≤ k ∨ (1 ≤ k ∧ ¬ k ≤ 3) ∨ (1 ≤ k ∧ k ≤ 3 ∧ ¬ 0 ≤ n) ∨ (1 ≤ k ∧ k ≤ 3 ∧ 0 ≤ n ∧ ¬ n ≤ 9) by omega) with g1 | ⟨g1, g2⟩ | ⟨g1, g2, g3⟩ | ⟨g1, g2, g3, g4⟩
      all_goals
        clear h
        try have g5 := decide_eq_false g4
        go_enter Tryz.func60, Tryz.ntmps60
        go_wp2_with (first | (go_at_call 21; (with_reducible refine (isPattern_yes p HP.out _).mono ?_); rintro e w1 ⟨rfl, a1⟩; have k4 := (boxed_past c1 a1 l1).cell; have k5 := (boxed_past c2 a1 l2).cell; have k6 := (boxed_past c3 a1 l3).cell) | (go_at_call 55; first | ((with_reducible refine (refuse_yes _ _).mono ?_); rintro e w3 ⟨rfl, rfl⟩) | ((with_reducible refine (refuse_no _ _).mono ?_); rintro e w3 ⟨rfl, rfl⟩)))
        exact ⟨rfl, .inr ⟨rfl, rfl⟩, a1⟩
  · rw [countAvR_bad k n hp]
    have HP := Lib.hid hp
    have SP := Lib.hid sp
    clear hp sp
    go_enter Tryz.func60, Tryz.ntmps60
    go_wp2_with (first | (go_at_call 21; (with_reducible refine (isPattern_no p SP.out HP.out _).mono ?_); rintro e w1 ⟨rfl, a1⟩) | (go_at_call 55; first | ((with_reducible refine (refuse_yes _ _).mono ?_); rintro e w3 ⟨rfl, rfl⟩) | ((with_reducible refine (refuse_no _ _).mono ?_); rintro e w3 ⟨rfl, rfl⟩)))
    exact ⟨rfl, .inr ⟨rfl, rfl⟩, a1⟩

set_option maxRecDepth 100000 in
set_option maxHeartbeats 1000000 in
theorem impl_CountAvoiding (p : ByteArray) (k n : Int) (w : World) (sp : p.size ≤ maxLen) :
    Calls Tryz.prog 10 #[.string p, .int .i64 k, .int .i64 n] w fun e w' => e = .returned (.tuple #[.int .i64 (countAvR p k n).1, .int .i64 (countAvR p k n).2]) ∧ Below w.heap.size w w' := by
  have c1 : Boxed (((w.alloc (.cells #[.string p] 9)).alloc (.cells #[.int .i64 k] 2)).alloc (.cells #[.int .i64 n] 2)) w.heap.size 9 (.string p) := ((Boxed.new w _ _).alloc _).alloc _
  have c2 : Boxed (((w.alloc (.cells #[.string p] 9)).alloc (.cells #[.int .i64 k] 2)).alloc (.cells #[.int .i64 n] 2)) (w.heap.size + 1) 2 (.int .i64 k) := by
    have h := Boxed.new (w.alloc (.cells #[.string p] 9)) 2 (.int .i64 k)
    rw [World.size_alloc] at h
    exact h.alloc _
  have c3 : Boxed (((w.alloc (.cells #[.string p] 9)).alloc (.cells #[.int .i64 k] 2)).alloc (.cells #[.int .i64 n] 2)) (w.heap.size + 1 + 1) 2 (.int .i64 n) := by
    have h := Boxed.new ((w.alloc (.cells #[.string p] 9)).alloc (.cells #[.int .i64 k] 2)) 2 (.int .i64 n)
    simp only [World.size_alloc] at h
    exact h
  have C1 := Lib.hid (c1.alloc (.cells #[.int .i64 0] 2))
  have C2 := Lib.hid (c2.alloc (.cells #[.int .i64 0] 2))
  have C3 := Lib.hid (c3.alloc (.cells #[.int .i64 0] 2))
  clear c1 c2 c3
  go_enter Tryz.func10, Tryz.ntmps10
  go_wp2_with (go_at_call 59; refine (door_num 60 _ _ (countAvR p k n) (enters_of Tryz.func60 (by kernel_rfl) rfl) (CountAvoiding1_any w.heap.size (w.heap.size + 1) (w.heap.size + 1 + 1) p k n _ C1.out C2.out C3.out sp)).mono ?_; rintro e w1 ⟨rfl, b1⟩)
  go_ret2
  exact ⟨rfl, (((Below.new w _).alloc (by simp) _).alloc (by simp; omega) _).then b1⟩

end Go.Proofs.YtfipbnognjepkaaGreatDoor
