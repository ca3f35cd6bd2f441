/- The greatest exponent of a factor: the program. -/
import Derived.Test.YtinanajagkilaabMarks
import Derived.Test.YtinanajagkilaabGeS
import Derived.Test.YtinanajagkilaabScopeIn
namespace Go.Proofs.Ytinanajagkilaab
set_option linter.unusedVariables false
set_option linter.unusedSimpArgs false
open Go.RowKit Go.Shelf
attribute [local go_sem] Oper.semAt_some

/-- How the search stands at the head of a round. -/
def GeAt (x : ByteArray) (w : World) (B5 : Nat) (gk : Nat) (a : Act) (W : World) : Prop :=
  ∃ (u1 u2 u3 u4 u8 u9 u10 u11 u12 u13 u14 u15 u16 u17 u18 u19 u20 u21 u22 u23 u24 u25 u26 u27 u28 u29 u30 u31 u32 u33 u34 u35 u36 u37 u38 u39 u40 u41 u42 u43 u44 u45 u46 u47 u48 : Value) (n B7 : Nat) (Ds : List Nat) (s : Nat × Nat), a = { tmps := #[.string x, u1, u2, u3, u4, .pointer (some ⟨B5, 0, none⟩), .pointer (some ⟨B5 + 1, 0, none⟩), .pointer (some ⟨B7, 0, none⟩), u8, u9, u10, u11, u12, u13, u14, u15, u16, u17, u18, u19, u20, u21, u22, u23, u24, u25, u26, u27, u28, u29, u30, u31, u32, u33, u34, u35, u36, u37, u38, u39, u40, u41, u42, u43, u44, u45, u46, u47, u48], defers := Ds.map mkD } ∧ (n ≤ x.size → n + gk = x.size + 1) ∧ 2 ≤ n ∧ n ≤ 61 ∧
    Boxed W B5 2 (.int .i64 (s.1 : Int)) ∧ Boxed W (B5 + 1) 2 (.int .i64 (s.2 : Int)) ∧ Boxed W B7 2 (.int .i64 (n : Int)) ∧ w.heap.size ≤ B5 ∧ B5 + 2 ≤ B7 ∧ Below w.heap.size w W ∧ MarksAt W w.heap.size Ds ∧ Hid (GeB x (fun i m => 2 ≤ m ∧ m < n) s)

set_option maxRecDepth 100000 in
set_option maxHeartbeats 4000000 in
theorem impl_Ge_ok (x : ByteArray) (R : Int × Int × Int) (w : World) (h : IsW x) (h0 : ¬ x.size = 0) (hR : geR x = R) :
    CallsIn Fence.wide 4 Try.prog 10 #[.string x] w fun e w' => e = .returned (.tuple #[.int .i64 R.1, .int .i64 R.2.1, .int .i64 R.2.2]) ∧ Below w.heap.size w w' := by
  have hx := h.size
  have hq := teq_not_nil h0
  have H := Lib.hid h
  have GR : Hid (∀ s, GeB x allS s → R = (((s.1 / Nat.gcd s.1 s.2 : Nat) : Int), ((s.2 / Nat.gcd s.1 s.2 : Nat) : Int), 0)) := Lib.hid fun s hs => by rw [← hR]; exact geR_ok h h0 hs
  clear h hR
  refine callsIn_of_wp_marks Try.func10 rfl trivial ?_ rfl
  simp only [Try.ntmps10, List.size_toArray, List.length_cons, List.length_nil, Nat.reduceAdd, Nat.reduceSub, Array.replicate_succ, Array.replicate_zero, List.push_toArray, List.append_toArray, List.nil_append, List.cons_append]
  gi_wp2_with (refine ⟨trivial, ?_⟩; gi_at_call 26; refine (callsIn_wide.2 (isWord_yes x _ H.out)).mono ?_; rintro e w1 ⟨rfl, b1⟩)
  have hb1 : Below w.heap.size w w1 := b1
  have hw1 := hb1.size
  have p5 : Boxed (((w1.alloc (.cells #[.int .i64 1] 2)).alloc (.cells #[.int .i64 1] 2)).alloc (.cells #[.int .i64 2] 2)) w1.heap.size 2 (.int .i64 1) := ((Boxed.new w1 _ _).alloc _).alloc _
  have p6 : Boxed (((w1.alloc (.cells #[.int .i64 1] 2)).alloc (.cells #[.int .i64 1] 2)).alloc (.cells #[.int .i64 2] 2)) (w1.heap.size + 1) 2 (.int .i64 1) := by
    have := Boxed.new (w1.alloc (.cells #[.int .i64 1] 2)) 2 (.int .i64 1)
    rw [World.size_alloc] at this
    exact this.alloc _
  have p7 : Boxed (((w1.alloc (.cells #[.int .i64 1] 2)).alloc (.cells #[.int .i64 1] 2)).alloc (.cells #[.int .i64 2] 2)) (w1.heap.size + 1 + 1) 2 (.int .i64 2) := by
    have := Boxed.new ((w1.alloc (.cells #[.int .i64 1] 2)).alloc (.cells #[.int .i64 1] 2)) 2 (.int .i64 2)
    simp only [World.size_alloc] at this
    exact this
  refine wpIn_loop_ghost_k (fun g a W => GeAt x w w1.heap.size g a W) (x.size - 1) ⟨_, _, _, _, _, _, _, _, _, _, _, _, _, _, _, _, _, _, _, _, _, _, _, _, _, _, _, _, _, _, _, _, _, _, _, _, _, _, _, _, _, _, _, _, _, 2, w1.heap.size + 1 + 1, [], (1, 1), rfl, by omega, by omega, by omega, p5, p6, p7, hw1, by omega, ((hb1.alloc hw1 _).alloc (by simp; omega) _).alloc (by simp; omega) _, MarksAt.nil _ _, Lib.hid (GeB.start x fun i m hs => by omega)⟩ ?_
  obtain ⟨B5, hB5e⟩ : ∃ B5, w1.heap.size = B5 := ⟨_, rfl⟩
  rw [hB5e]
  clear p5 p6 p7 hb1 b1 hw1 hB5e
  intro gk a W hI J K hJ hK
  obtain ⟨u1, u2, u3, u4, u8, u9, u10, u11, u12, u13, u14, u15, u16, u17, u18, u19, u20, u21, u22, u23, u24, u25, u26, u27, u28, u29, u30, u31, u32, u33, u34, u35, u36, u37, u38, u39, u40, u41, u42, u43, u44, u45, u46, u47, u48, n, B7, Ds, s, rfl, hn, hn2, hn61, v5, v6, v7, hB5, hB7, hB, hM, HG⟩ := hI
  have c5 := v5.cell
  have c6 := v6.cell
  have c7 := v7.cell
  have hbz := hB.size
  have l5 := v5.lt
  have l6 := v6.lt
  have l7 := v7.lt
  by_cases hp : n ≤ x.size
  · obtain ⟨g, rfl⟩ : ∃ g, gk = g + 1 := ⟨gk - 1, by have := hn hp; omega⟩
    have hng := hn hp
    have hpi : (n : Int) ≤ (x.size : Int) := by omega
    gi_wp2_with (refine ⟨trivial, ?_⟩; gi_at_call 27; refine (factorsIn_in Fence.wide _ trivial rfl _ _ _).mono ?_; rintro e w2 ⟨rfl, rfl⟩)
    have q2 : Boxed ((W.alloc (.cells #[.string x] 9)).alloc (.cells #[.int .i64 (n : Int)] 2)) W.heap.size 9 (.string x) := (Boxed.new W _ _).alloc _
    have q1 : Boxed ((W.alloc (.cells #[.string x] 9)).alloc (.cells #[.int .i64 (n : Int)] 2)) (W.heap.size + 1) 2 (.int .i64 (n : Int)) := by
      have := Boxed.new (W.alloc (.cells #[.string x] 9)) 2 (.int .i64 (n : Int))
      rwa [World.size_alloc] at this
    have d5 := (v5.alloc (.cells #[.string x] 9)).alloc (.cells #[.int .i64 (n : Int)] 2)
    have d6 := (v6.alloc (.cells #[.string x] 9)).alloc (.cells #[.int .i64 (n : Int)] 2)
    have d7 := (v7.alloc (.cells #[.string x] 9)).alloc (.cells #[.int .i64 (n : Int)] 2)
    have dB := (hB.alloc hbz (.cells #[.string x] 9)).alloc (by simp; omega) (.cells #[.int .i64 (n : Int)] 2)
    have hs0 : ((W.alloc (.cells #[.string x] 9)).alloc (.cells #[.int .i64 (n : Int)] 2)).heap.size = W.heap.size + 2 := by simp
    have dM : MarksAt ((W.alloc (.cells #[.string x] 9)).alloc (.cells #[.int .i64 (n : Int)] 2)) w.heap.size Ds := hM.keep fun b o hb _ => by
      have hlt := (Array.getElem?_eq_some_iff.1 hb).1
      rw [Below.heap_alloc _ _ b (by simp; omega), Below.heap_alloc _ _ b hlt]
      exact hb
    have hMl := hM.lt
    generalize hW0 : (W.alloc (.cells #[.string x] 9)).alloc (.cells #[.int .i64 (n : Int)] 2) = W0 at q1 q2 d5 d6 d7 dB hs0 dM ⊢
    clear hW0 v5 v6 v7 hB hM c5 c6 c7
    refine wpIn_rangeFunc_ownG rfl (by decide) (gf := 41) (lb := #[.pointer (some ⟨W.heap.size + 1, 0, none⟩), .pointer (some ⟨W.heap.size, 0, none⟩)]) rfl trivial (enters_of Try.func41 (by kernel_rfl) rfl)
      (factorsF_stops Fence.wide 3 trivial rfl (by decide) (W.heap.size + 1) W.heap.size w.heap.size x n hx (by omega) W0 q1 q2) kpF_t (kpF_b (by omega) (by omega) (by omega)) (Below.refl _ _) (fun _ => rfl)
      (fun pre W' => ∃ s : Nat × Nat, Boxed W' B5 2 (.int .i64 (s.1 : Int)) ∧ Boxed W' (B5 + 1) 2 (.int .i64 (s.2 : Int)) ∧ Boxed W' B7 2 (.int .i64 (n : Int)) ∧ (Boxed W' (W.heap.size + 1) 2 (.int .i64 (n : Int)) ∧ Boxed W' W.heap.size 9 (.string x)) ∧ Below w.heap.size w W' ∧ MarksAt W' w.heap.size Ds ∧ Hid (GeB x (fun i m => (2 ≤ m ∧ m < n) ∨ (m = n ∧ ∃ k ∈ pre, k.val = i)) s))
      (fun c pre W' => False)
      (fun t A B row hs hg hr => by
        obtain ⟨s, h1, h2, h4, ⟨h5, h6⟩, h7, h8, h9⟩ := hs
        have hne : ∀ b, b < W0.heap.size → some b ≠ row := fun b hb e => by have := (hr _ e.symm).1; omega
        exact ⟨s, h1.kept hg (hne _ (by omega)), h2.kept hg (hne _ (by omega)), h4.kept hg (hne _ (by omega)), ⟨h5.kept hg (hne _ (by omega)), h6.kept hg (hne _ (by omega))⟩, h7.grown hg (by have := h7.size; omega) (fun k e => by have := (hr _ e).1; omega),
          ⟨h8.1, fun D hD => ⟨(h8.2 D hD).1, (hg.block D (h8.lt D hD) (hne D (by have := hMl D hD; omega))).trans (h8.2 D hD).2⟩⟩, h9⟩)
      (fun c s A B row hs hg hr => hs)
      ⟨s, d5, d6, d7, ⟨q1, q2⟩, dB, dM, Lib.hid (HG.out.mono fun i m hs h1 h2 => by
        rcases hs with hs | ⟨_, k, hk, _⟩
        · exact hs
        · cases hk)⟩
      (fun i => { tmps := #[.string x, u1, u2, u3, u4, .pointer (some ⟨B5, 0, none⟩), .pointer (some ⟨B5 + 1, 0, none⟩), .pointer (some ⟨B7, 0, none⟩), u8, .string (x.extract i.val (i.val + n)), u10, u11, u12, u13, u14, u15, u16, .int .i64 (n : Int), .string x, .int .i64 (x.size : Int), .bool true, u21, u22, .string x, .int .i64 (n : Int), .func (.func 41) #[] #[.pointer (some ⟨W.heap.size + 1, 0, none⟩), .pointer (some ⟨W.heap.size, 0, none⟩)], .int .i64 (i.val : Int), .string (x.extract i.val (i.val + n)), u28, u29, u30, u31, u32, u33, u34, u35, u36, u37, u38, u39, u40, u41, u42, u43, u44, u45, u46, u47, u48], defers := [] }) ?assign ?body ?done ?stop
    case assign =>
      intro l i W K hK
      gi_wp2
      exact hK
    case body =>
      rintro l pre i W' ⟨s, h5, h6, h7, ⟨r1, r2⟩, hB', hM', HS⟩ hlt
      have k5 := h5.cell
      have k6 := h6.cell
      have k7 := h7.cell
      have m5 := h5.lt
      have m6 := h6.lt
      have m7 := h7.lt
      have mr1 := r1.lt
      have mr2 := r2.lt
      have hin : i.val + n ≤ x.size := by have := i.isLt; omega
      have z1 : (x.extract i.val (i.val + n)).size = n := by simp; omega
      have CP : Hid (∀ w, Calls Try.prog 28 #[.string (x.extract i.val (i.val + n))] w fun e w' => e = .returned (.int .i64 (lpf x i.val n : Int)) ∧ Below w.heap.size w w') := Lib.hid fun w => leastPeriod_any (x.extract i.val (i.val + n)) w (by omega) (by omega)
      have HS2 : Hid (GeB x (fun i' m => (2 ≤ m ∧ m < n) ∨ (m = n ∧ ∃ k ∈ pre ++ [i], k.val = i')) (geStep s n (lpf x i.val n))) := Lib.hid ((HS.out.step (by omega) hin).mono fun i' m hs h1 h2 => by
        rcases hs with hs | ⟨hm, k, hk, hki⟩
        · exact .inl (.inl hs)
        · rcases List.mem_append.1 hk with hk | hk
          · exact .inl (.inr ⟨hm, k, hk, hki⟩)
          · exact .inr ⟨by rw [← hki, List.mem_singleton.1 hk], hm⟩)
      have hb1 := HS.out.2.2.1
      have hb2 := HS.out.2.2.2.1
      have hb5 := lpf_bd (x := x) (i := i.val) (m := n) (by omega) hin
      obtain ⟨s1, s2⟩ := s
      dsimp only at *
      generalize lpf x i.val n = q at *
      generalize x.extract i.val (i.val + n) = y at *
      obtain ⟨P, hP⟩ : ∃ P, n * s2 = P := ⟨_, rfl⟩
      obtain ⟨Q, hQ⟩ : ∃ Q, s1 * q = Q := ⟨_, rfl⟩
      have hPi : (n : Int) * (s2 : Int) = (P : Int) := by rw [← hP, Int.natCast_mul]
      have hQi : (s1 : Int) * (q : Int) = (Q : Int) := by rw [← hQ, Int.natCast_mul]
      have hPl : P ≤ 3600 := by rw [← hP]; exact Nat.mul_le_mul (show n ≤ 60 by omega) (show s2 ≤ 60 by omega)
      have hQl : Q ≤ 3600 := by rw [← hQ]; exact Nat.mul_le_mul (show s1 ≤ 60 by omega) (show q ≤ 60 by omega)
      have hp2 : (0 : Int) ≤ (n : Int) * (s2 : Int) := by omega
      have hp3 : (0 : Int) ≤ (s1 : Int) * (q : Int) := by omega
      have HPQ : Hid (geStep (s1, s2) n q = if Q < P then (n, q) else (s1, s2)) := Lib.hid (by unfold geStep; rw [← hP, ← hQ])
      clear hP hQ
      by_cases hgt : Q < P
      · have HS3 := HS2
        rw [HPQ.out, if_pos hgt] at HS3
        have hgi : (Q : Int) < (P : Int) := by omega
        gi_wp2_with (refine ⟨trivial, ?_⟩; gi_at_call 28; refine (CallsIn.inRound l (callsIn_wide.2 (CP.out _))).mono ?_; rintro e w3 ⟨rfl, b3⟩; have j5 : Boxed w3 B5 2 (.int .i64 (s1 : Int)) := (b3.block _ m5).trans h5; have j6 : Boxed w3 (B5 + 1) 2 (.int .i64 (s2 : Int)) := (b3.block _ m6).trans h6; have j7 : Boxed w3 B7 2 (.int .i64 (n : Int)) := (b3.block _ m7).trans h7; have e5 := j5.cell; have e6 := j6.cell; have e7 := j7.cell; have f5 := j5.frozen; have f6 := j6.frozen)
        have kb : ∀ b, b < W'.heap.size → w3.heap[b]? = W'.heap[b]? := fun b hb => b3.block b hb
        have hbs := hB'.size
        have h3s := b3.size
        have hM3 := hM'.old (W' := w3) kb
        obtain ⟨t1, t2, t3, t4, t5⟩ := two_boxes (x := .int .i64 (n : Int)) (x' := .int .i64 (q : Int)) j5 j6 (hB'.then b3) hB5
        exact ⟨KeepsFrom.trans ⟨b3.size, fun k o _ hk _ => (kb k (Array.getElem?_eq_some_iff.1 hk).1).trans hk⟩ (t4 _ (by omega)),
          ⟨((b3.mono hbs).setCell (p := ⟨B5, 0, none⟩) hB5 _).setCell (p := ⟨B5 + 1, 0, none⟩) (by show w.heap.size ≤ B5 + 1; omega) _, (t5 _ (by omega) (by omega) (by omega)).trans (kb _ mr1), (t5 _ (by omega) (by omega) (by omega)).trans (kb _ mr2)⟩,
          (n, q), t1, t2, (t5 _ (by omega) (by omega) (by omega)).trans j7, ⟨(t5 _ (by omega) (by omega) (by omega)).trans ((kb _ mr1).trans r1), (t5 _ (by omega) (by omega) (by omega)).trans ((kb _ mr2).trans r2)⟩, t3,
          ⟨hM3.1, fun D hD => ⟨(hM3.2 D hD).1, (t5 D (hM3.lt D hD) (fun e => hM3.not_box j5 (e ▸ hD)) (fun e => hM3.not_box j6 (e ▸ hD))).trans (hM3.2 D hD).2⟩⟩, HS3⟩
      · have HS3 := HS2
        rw [HPQ.out, if_neg hgt] at HS3
        have hgi : ¬ (Q : Int) < (P : Int) := by omega
        gi_wp2_with (refine ⟨trivial, ?_⟩; gi_at_call 28; refine (CallsIn.inRound l (callsIn_wide.2 (CP.out _))).mono ?_; rintro e w3 ⟨rfl, b3⟩; have j5 : Boxed w3 B5 2 (.int .i64 (s1 : Int)) := (b3.block _ m5).trans h5; have j6 : Boxed w3 (B5 + 1) 2 (.int .i64 (s2 : Int)) := (b3.block _ m6).trans h6; have j7 : Boxed w3 B7 2 (.int .i64 (n : Int)) := (b3.block _ m7).trans h7; have e5 := j5.cell; have e6 := j6.cell; have e7 := j7.cell)
        have kb : ∀ b, b < W'.heap.size → w3.heap[b]? = W'.heap[b]? := fun b hb => b3.block b hb
        have hbs := hB'.size
        exact ⟨⟨b3.size, fun k o _ hk _ => (kb k (Array.getElem?_eq_some_iff.1 hk).1).trans hk⟩, ⟨b3.mono hbs, kb _ mr1, kb _ mr2⟩, (s1, s2), j5, j6, j7, ⟨(kb _ mr1).trans r1, (kb _ mr2).trans r2⟩, hB'.then b3, hM'.old kb, HS3⟩
    case done =>
      rintro D ys W' hD hys ⟨s, h5, h6, h7, ⟨r1, r2⟩, hB', hM', HS⟩ hKD
      have k7 := h7.cell
      have hbs := hB'.size
      have m5 := h5.lt
      have m6 := h6.lt
      have m7 := h7.lt
      have HN : Hid (GeB x (fun i m => 2 ≤ m ∧ m < n + 1) s) := Lib.hid (HS.out.mono fun i m hs h1 h2 => by
        by_cases e : m = n
        · refine .inr ⟨e, ?_⟩
          have h10 : i ∈ ys.map Fin.val := by rw [hys]; exact List.mem_range.2 (by omega)
          obtain ⟨q, hq1, hq2⟩ := List.mem_map.1 h10
          exact ⟨q, hq1, hq2⟩
        · exact .inl ⟨hs.1, by omega⟩)
      gi_wp2
      refine Handed.intro g (by omega) (hJ _ _ _ ⟨_, _, _, _, _, _, _, _, _, _, _, _, _, _, _, _, _, _, _, _, _, _, _, _, _, _, _, _, _, _, _, _, _, _, _, _, _, _, _, _, _, _, _, _, _, n + 1, W'.heap.size, D :: Ds, s, rfl, fun _ => by omega, by omega, by omega, h5.alloc _, h6.alloc _, ?_, hB5, by omega, hB'.alloc hbs _, ?_, HN⟩)
      · rw [show ((n + 1 : Nat) : Int) = (n : Int) + 1 by omega]
        exact Boxed.new W' _ _
      · refine MarksAt.old (W := W') (MarksAt.cons hM' (by omega) hKD fun hm => ?_) fun b hb => Below.heap_alloc _ _ b hb
        have := hMl D hm
        omega
    case stop =>
      rintro D c pre W' _ _ hx' _
      exact hx'.elim
  · have hpi : ¬ (n : Int) ≤ (x.size : Int) := by omega
    have HA : Hid (GeB x allS s) := Lib.hid (GeB.ones (HG.out.mono fun i m hs h1 h2 => ⟨hs.2, by omega⟩))
    have hb1 := HA.out.2.2.1
    have hb2 := HA.out.2.2.2.1
    have hb3 := HA.out.1
    have hb4 := HA.out.2.1
    have HV := Lib.hid (GR.out s HA.out)
    obtain ⟨s1, s2⟩ := s
    dsimp only at *
    have hg0 := Nat.gcd_pos_of_pos_left s2 hb3
    have CG := Lib.hid fun w => commonDivisor_any s1 s2 w (by omega) (by omega)
    generalize Nat.gcd s1 s2 = d at *
    have hdz : ¬ (d : Int) = 0 := by omega
    gi_wp2_with (refine ⟨trivial, ?_⟩; gi_at_call 29; refine (callsIn_wide.2 (CG.out _)).mono ?_; rintro e w3 ⟨rfl, b3⟩; have j5 : Boxed w3 B5 2 (.int .i64 (s1 : Int)) := (b3.block _ l5).trans v5; have j6 : Boxed w3 (B5 + 1) 2 (.int .i64 (s2 : Int)) := (b3.block _ l6).trans v6; have e5 := j5.cell; have e6 := j6.cell)
    gi_quiet (fail)
    gi_wp2
    have hM3 := hM.old (W' := w3) fun b hb => b3.block b hb
    exact leaves_marks (fun W => Below w.heap.size w W)
      (fun W hW => ⟨_, results_tmp3 rfl _ _ _, by rw [HV.out, ← wrap_quo s1 d (by omega), ← wrap_quo s2 d (by omega)]; rfl, hW⟩)
      Ds _ w.heap.size hM3 (fun D W hD hW hK => hW.trans (belowK_b (w := w) (Nat.le_refl _) W D _ _ hD hK rfl rfl)) ((hB.then b3).drewN _)

set_option maxRecDepth 100000 in
theorem impl_GreatestExponent (x : ByteArray) (w : World) (sx : x.size ≤ maxLen) :
    Calls Try.prog 10 #[.string x] w fun e w' => e = .returned (.tuple #[.int .i64 (geR x).1, .int .i64 (geR x).2.1, .int .i64 (geR x).2.2]) ∧ Below w.heap.size w w' := by
  by_cases h : IsW x
  · by_cases h0 : x.size = 0
    · rw [geR_nil h h0]
      have hq := teq_nil h0
      have H := Lib.hid h
      clear h
      go_enter Try.func10, Try.ntmps10
      go_wp2_with fail
      refine (isWord_yes x _ H.out).mono ?_
      rintro e w1 ⟨rfl, b1⟩
      go_wp2_with fail
      go_ret3
      exact ⟨rfl, b1⟩
    · exact callsIn_wide.1 (impl_Ge_ok x _ w h h0 rfl)
  · rw [geR_bad h]
    have H := Lib.hid h
    clear h
    go_enter Try.func10, Try.ntmps10
    go_wp2_with fail
    refine (isWord_not x _ sx H.out).mono ?_
    rintro e w1 ⟨rfl, b1⟩
    go_wp2_with fail
    go_ret3
    exact ⟨rfl, b1⟩

end Go.Proofs.Ytinanajagkilaab
