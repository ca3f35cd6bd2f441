/- The palindromes that begin at a place: the iterator, with what it calls. -/
import Derived.Test.YtddfdciohnabbacGreatPal
import Derived.Test.YtddfdciohnabbacGreatFpPlain
import Derived.Test.YtddfdciohnabbacGreatFacIter
import Derived.Test.YtddfdciohnabbacGreatDrawn
namespace Go.Proofs.YtddfdciohnabbacGreat
set_option linter.unusedVariables false
set_option linter.unusedSimpArgs false
open Go.RowKit Go.Shelf
attribute [local go_sem] Oper.semAt_some

set_option maxRecDepth 100000 in
set_option maxHeartbeats 1000000 in
theorem isPal_q (x : ByteArray) (w : World) (hx : x.size ≤ 1000) :
    Calls Tryz.prog 45 #[.string x] w fun e w' => e = .returned (.bool (palB (bl x))) ∧ Drawn w w' := by
  go_enter Tryz.func45, Tryz.ntmps45
  have hdv : (x.size : Int) / 2 = ((x.size / 2 : Nat) : Int) := by omega
  obtain ⟨n, hn⟩ : ∃ n, x.size / 2 = n := ⟨_, rfl⟩
  rw [hn] at hdv
  go_wp2
  go_loopw [7] (fun i wr => ∃ k : Nat, k ≤ n ∧ i = .int .i64 (k : Int) ∧ Drawn w wr ∧ PalTo x k)
    (fun i _ => n + 1 - (intOf i).toNat)
  case atStart => exact ⟨0, Nat.zero_le _, rfl, Drawn.refl _, PalTo.zero x⟩
  case round =>
    obtain ⟨k, hk, rfl, hB, hP⟩ := hrel
    have HP := Lib.hid hP
    clear hP
    by_cases hp : k < n
    · have hk1 : k < x.size := by omega
      have hk2 : x.size - 1 - k < x.size := by omega
      have hle : (x[k]'hk1).toNat = (x[x.size - 1 - k]'hk2).toNat ↔ x[k]'hk1 = x[x.size - 1 - k]'hk2 := nat_byte
      have hS := fun e => HP.out.succ hk1 hk2 (hle.1 e)
      have hM := fun (e : ¬ _) => pal_miss (x := x) (k := k) (by omega) hk1 hk2 (fun c => e (hle.2 c))
      have hix1 : ∀ W, (Instr.index 56 (.string x) (.int .i64 (k : Int))).run Tryz.prog W = .ok (.int .u8 ((x[k]'hk1).toNat : Int)) W := fun W => index_atC x _ k hk1 rfl W
      have hix2 : ∀ W, (Instr.index 56 (.string x) (.int .i64 ((x.size : Int) - 1 - (k : Int)))).run Tryz.prog W = .ok (.int .u8 ((x[x.size - 1 - k]'hk2).toNat : Int)) W := fun W => index_atC x _ (x.size - 1 - k) hk2 (by omega) W
      clear hle
      generalize (x[k]'hk1).toNat = a at *
      generalize (x[x.size - 1 - k]'hk2).toNat = b at *
      have HS := Lib.hid hS
      have HM := Lib.hid hM
      clear hS hM
      by_cases he : a = b
      · have hee : (a : Int) = (b : Int) := by omega
        have HT := Lib.hid (HS.out he)
        clear he
        go_wp2
        go_quiet (fail)
        go_wp2
        go_roundw
        case rel => exact ⟨k + 1, by omega, by go_num, hB.more _, HT.out⟩
        case measure => simp [intOf]; omega
      · have hee : ¬ (a : Int) = (b : Int) := by omega
        have HT := Lib.hid (HM.out he)
        clear he
        go_wp2
        go_quiet (fail)
        go_wp2
        go_ret
        exact ⟨by rw [HT.out]; rfl, hB.more _⟩
    · have HD := Lib.hid (HP.out.done (by omega))
      go_wp2
      go_ret
      exact ⟨by rw [HD.out]; rfl, hB⟩

/-- The ends of the palindromes at a place, of at most some letters, longer ones first. -/
def tosL (x : ByteArray) (i : Nat) : Nat → List Nat
  | 0 => []
  | f + 1 => if palB (bl (x.extract i (i + (f + 1)))) then (i + (f + 1)) :: tosL x i f else tosL x i f
theorem tosL_hit {x : ByteArray} {i f : Nat} (h : palB (bl (x.extract i (i + (f + 1)))) = true) : tosL x i (f + 1) = (i + (f + 1)) :: tosL x i f := by rw [tosL, if_pos h]
theorem tosL_miss {x : ByteArray} {i f : Nat} (h : palB (bl (x.extract i (i + (f + 1)))) = false) : tosL x i (f + 1) = tosL x i f := by rw [tosL, if_neg (by rw [h]; decide)]
theorem tosL_at {x : ByteArray} {i k : Nat} (hk : i < k) (h : palB (bl (x.extract i k)) = true) : tosL x i (k - i) = k :: tosL x i (k - 1 - i) := by
  obtain ⟨f, rfl⟩ : ∃ f, k = i + (f + 1) := ⟨k - i - 1, by omega⟩
  rw [show i + (f + 1) - i = f + 1 by omega, tosL_hit h, show i + (f + 1) - 1 - i = f by omega]
theorem tosL_no {x : ByteArray} {i k : Nat} (hk : i < k) (h : palB (bl (x.extract i k)) = false) : tosL x i (k - i) = tosL x i (k - 1 - i) := by
  obtain ⟨f, rfl⟩ : ∃ f, k = i + (f + 1) := ⟨k - i - 1, by omega⟩
  rw [show i + (f + 1) - i = f + 1 by omega, tosL_miss h, show i + (f + 1) - 1 - i = f by omega]
theorem tosL_len (x : ByteArray) (i : Nat) : ∀ f, (tosL x i f).length = cpI x i f
  | 0 => rfl
  | f + 1 => by
    rw [tosL, cpI]
    split
    · rw [List.length_cons, tosL_len x i f]
    · rw [tosL_len x i f]; rfl
theorem mem_tosL (x : ByteArray) (i j : Nat) : ∀ f, j ∈ tosL x i f ↔ i < j ∧ j ≤ i + f ∧ palB (bl (x.extract i j)) = true
  | 0 => by simp [tosL]; omega
  | f + 1 => by
    by_cases h : palB (bl (x.extract i (i + (f + 1)))) = true
    · rw [tosL_hit h, List.mem_cons, mem_tosL x i j f]
      constructor
      · rintro (rfl | ⟨h1, h2, h3⟩)
        · exact ⟨by omega, Nat.le_refl _, h⟩
        · exact ⟨h1, by omega, h3⟩
      · rintro ⟨h1, h2, h3⟩
        by_cases e : j = i + (f + 1)
        · exact .inl e
        · exact .inr ⟨h1, by omega, h3⟩
    · have h' : palB (bl (x.extract i (i + (f + 1)))) = false := by simpa using h
      rw [tosL_miss h', mem_tosL x i j f]
      constructor
      · rintro ⟨h1, h2, h3⟩; exact ⟨h1, by omega, h3⟩
      · rintro ⟨h1, h2, h3⟩
        by_cases e : j = i + (f + 1)
        · subst e; exact absurd h3 h
        · exact ⟨h1, by omega, h3⟩
abbrev encPT (x : ByteArray) (i : Nat) (j : Nat) : Array Value := #[.string (x.extract i j)]

set_option maxRecDepth 100000 in
set_option maxHeartbeats 2000000 in
theorem pals1_at (n : Nat) (hn : 1 ≤ n) (l b1 b2 n₀ : Nat) (x : ByteArray) (i : Nat) (hx : x.size ≤ 60) (hi : i ≤ x.size) (J Jx : List Nat → World → Prop)
    (hA : ∀ L A B row, J L A → A.grownBy B row → (∀ r, row = some r → False) → J L B)
    (hY : ∀ pre j W, J pre W → pre.length < (tosL x i (x.size - i)).length → j ∈ tosL x i (x.size - i) → YieldAt Fence.wide (n - 1) Tryz.prog l (encPT x i j) W fun e W' =>
      (e = .returned (.bool true) ∧ J (pre ++ [j]) W' ∧ KpF n₀ b1 b2 W W') ∨ (e = .returned (.bool false) ∧ Jx (pre ++ [j]) W'))
    (W : World) (c1 : Boxed W b1 9 (.string x)) (c2 : Boxed W b2 3 (.int .i64 (i : Int))) (h0 : J [] W) :
    CallsIn Fence.wide n Tryz.prog 49 #[.func (.yield l) #[] #[], .pointer (some ⟨b1, 0, none⟩), .pointer (some ⟨b2, 0, none⟩)] W fun e W' => (∃ v, e = .returned v) ∧
      ((∃ ys, ys = tosL x i (x.size - i) ∧ J ys W') ∨ (∃ pre : List Nat, (pre ≠ [] ∧ ∃ t, pre ++ t = tosL x i (x.size - i)) ∧ Jx pre W')) := by
  obtain ⟨R, hR⟩ : ∃ R, tosL x i (x.size - i) = R := ⟨_, rfl⟩
  rw [hR] at hY ⊢
  have HR0 := Lib.hid hR
  have hM := fun j => mem_tosL x i j (x.size - i)
  rw [hR] at hM
  have HM := Lib.hid hM
  clear hR hM
  refine callsIn_of_wp Tryz.func49 rfl trivial ?_ rfl
  simp only [Tryz.ntmps49, List.size_toArray, List.length_cons, List.length_nil, Nat.reduceAdd, Nat.reduceSub, Array.replicate_succ, Array.replicate_zero, List.push_toArray, List.append_toArray, List.nil_append, List.cons_append]
  have e1 := c1.cell
  have e2 := c2.cell
  gi_wp2
  gi_loopw [4] (fun v wr => ∃ (k : Nat) (pre : List Nat), i ≤ k ∧ k ≤ x.size ∧ v = .int .i64 (k : Int) ∧ J pre wr ∧ Boxed wr b1 9 (.string x) ∧ Boxed wr b2 3 (.int .i64 (i : Int)) ∧ Hid (pre ++ tosL x i (k - i) = R))
    (fun v _ => (intOf v).toNat)
  case atStart => exact ⟨x.size, [], hi, Nat.le_refl _, rfl, h0, c1, c2, HR0⟩
  case round =>
    clear e1 e2 c1 c2 h0 HR0
    obtain ⟨k, pre, hik, hk, rfl, hJ, d1, d2, HR⟩ := hrel
    have e1 := d1.cell
    have e2 := d2.cell
    by_cases hp : i < k
    · have hpi : (i : Int) < (k : Int) := by omega
      have hsl : ∀ W, (Instr.slice 9 (.string x) (some (.int .i64 (i : Int))) (some (.int .i64 (k : Int))) none).run Tryz.prog W = .ok (.string (x.extract i k)) W := fun W => by
        have := run_slice_string (P := Tryz.prog) W 9 x .i64 .i64 (i : Int) (k : Int) Tryz.underlying9 (by omega) (by omega) (by omega)
        simpa using this
      have CQ := Lib.hid fun w => isPal_q (x.extract i k) w (by simp; omega)
      by_cases ht : palB (bl (x.extract i k)) = true
      · have HN : Hid (pre ++ [k] ++ tosL x i (k - 1 - i) = R) := Lib.hid (by
          rw [← HR.out, tosL_at hp ht]; simp)
        have hpl : pre.length < R.length := by
          have h2 := congrArg List.length HN.out
          simp only [List.length_append, List.length_cons, List.length_nil] at h2
          omega
        have hmem : k ∈ R := (HM.out k).2 ⟨hp, by omega, ht⟩
        rw [ht] at CQ
        gi_wp2_with (refine ⟨trivial, ?_⟩; gi_at_call 45; refine (callsIn_wide.2 (CQ.out _)).mono ?_; rintro e w1 ⟨rfl, nq, rfl⟩; have hJ1 := hA _ _ _ none hJ (⟨rfl, rfl, rfl, Nat.le_refl _, fun _ _ _ => rfl⟩ : wr.grownBy (wr.drewN nq) none) (fun r e => by cases e); obtain ⟨fn, tmps, assign, body, hy, hRd⟩ := hY pre k _ hJ1 hpl hmem; dsimp only [encPT] at hy)
        refine hRd.mono ?_
        rintro e W3 (⟨rfl, hJ3, hk3⟩ | ⟨rfl, hJx3⟩)
        · gi_wp2
          go_roundw
          case rel => exact ⟨k - 1, pre ++ [k], by omega, by omega, by go_num, hJ3, hk3.2.1.trans d1, hk3.2.2.trans d2, HN⟩
          case measure => simp [intOf]; omega
        · gi_wp2
          refine bodyPost_ret (results_none rfl _ _ _) rfl ?_
          exact ⟨⟨_, rfl⟩, .inr ⟨_, ⟨by simp, tosL x i (k - 1 - i), HN.out⟩, hJx3⟩⟩
      · have ht2 : palB (bl (x.extract i k)) = false := by simpa using ht
        have HN : Hid (pre ++ tosL x i (k - 1 - i) = R) := Lib.hid (by
          rw [← HR.out, tosL_no hp ht2])
        rw [ht2] at CQ
        gi_wp2_with (refine ⟨trivial, ?_⟩; gi_at_call 45; refine (callsIn_wide.2 (CQ.out _)).mono ?_; rintro e w1 ⟨rfl, nq, rfl⟩; have hJ1 := hA _ _ _ none hJ (⟨rfl, rfl, rfl, Nat.le_refl _, fun _ _ _ => rfl⟩ : wr.grownBy (wr.drewN nq) none) (fun r e => by cases e))
        refine ⟨fun f e => (by cases e), ?_⟩
        rename_i hK1 x1 h1 w1 heq1
        refine hK1 _ _ ?_
        clear heq1 hK1
        gi_wp2
        go_roundw
        case rel => exact ⟨k - 1, pre, by omega, by omega, by go_num, hJ1, d1, d2, HN⟩
        case measure => simp [intOf]; omega
    · have hpi : ¬ (i : Int) < (k : Int) := by omega
      have HV : Hid (pre = R) := Lib.hid (by rw [← HR.out, show k - i = 0 by omega, tosL, List.append_nil])
      gi_wp2
      go_end0
      first
        | exact ⟨⟨_, rfl⟩, .inl ⟨_, HV.out, hJ⟩⟩
        | exact ⟨⟨_, rfl⟩, .inl (HV.out ▸ hJ)⟩

/-- The same, the ends as members of the list. -/
theorem palsT_stops (n : Nat) (hn : 1 ≤ n) (b1 b2 n₀ : Nat) (x : ByteArray) (i : Nat) (hx : x.size ≤ 60) (hi : i ≤ x.size) (w : World) (c1 : Boxed w b1 9 (.string x)) (c2 : Boxed w b2 3 (.int .i64 (i : Int))) :
    SeqStopsK Fence.wide n Tryz.prog 49 #[.pointer (some ⟨b1, 0, none⟩), .pointer (some ⟨b2, 0, none⟩)] (fun p : { j : Nat // j ∈ tosL x i (x.size - i) } => encPT x i p.1) (KpF n₀ b1 b2) (fun ys => ys.map Subtype.val = tosL x i (x.size - i)) (fun pre => pre ≠ [] ∧ ∃ t, pre.map Subtype.val ++ t = tosL x i (x.size - i)) (tosL x i (x.size - i)).length w := fun l J Jx W hW hA _ hY h0 => by
  refine (pals1_at n hn l b1 b2 n₀ x i hx hi (fun L W => ∃ L' : List { j : Nat // j ∈ tosL x i (x.size - i) }, L'.map Subtype.val = L ∧ J L' W) (fun L W => ∃ L' : List { j : Nat // j ∈ tosL x i (x.size - i) }, L'.map Subtype.val = L ∧ Jx L' W) ?_ (fun pre p W hJ hk hp => ?_) W ((hW.block b1 c1.lt).trans c1) ((hW.block b2 c2.lt).trans c2) ⟨[], rfl, h0⟩).mono ?_
  · rintro L A B row ⟨L', hL, hJ⟩ hg hr
    exact ⟨L', hL, hA _ _ _ _ hJ hg (fun r e => absurd e (fun e2 => hr r e2))⟩
  · obtain ⟨L', hL, hJ⟩ := hJ
    have hl : L'.length = pre.length := by rw [← hL, List.length_map]
    obtain ⟨fn, tmps, assign, body, hy, hR⟩ := hY L' ⟨p, hp⟩ W hJ (by omega)
    refine ⟨fn, tmps, assign, body, hy, hR.mono ?_⟩
    rintro e W3 (⟨he, hJ3, hk3⟩ | ⟨he, hJ3⟩)
    · exact .inl ⟨he, ⟨_, by rw [List.map_append, hL]; rfl, hJ3⟩, hk3⟩
    · exact .inr ⟨he, ⟨_, by rw [List.map_append, hL]; rfl, hJ3⟩⟩
  · rintro e W3 ⟨hv, (⟨ys, rfl, L', hL, hJ⟩ | ⟨pre, ⟨hne, t, ht⟩, L', hL, hJ⟩)⟩
    · exact ⟨hv, .inl ⟨L', hL, hJ⟩⟩
    · exact ⟨hv, .inr ⟨L', ⟨fun e2 => hne (by rw [← hL, e2]; rfl), t, by rw [hL]; exact ht⟩, hJ⟩⟩

set_option maxHeartbeats 1000000 in
theorem palindromesAt_in (x : ByteArray) (i : Int) (n : Nat) (w : World) :
    CallsIn Fence.wide n Tryz.prog 29 #[.string x, .int .i64 i] w fun e w' => e = .returned (.func (.func 49) #[] #[.pointer (some ⟨w.heap.size, 0, none⟩), .pointer (some ⟨w.heap.size + 1, 0, none⟩)]) ∧ w' = (w.alloc (.cells #[.string x] 9)).alloc (.cells #[.int .i64 i] 3) := by
  refine callsIn_of_wp Tryz.func29 rfl trivial ?_ rfl
  simp only [Tryz.ntmps29, List.size_toArray, List.length_cons, List.length_nil, Nat.reduceAdd, Nat.reduceSub, Array.replicate_succ, Array.replicate_zero, List.push_toArray, List.append_toArray, List.nil_append, List.cons_append]
  gi_wp2
  go_ret
  exact ⟨rfl, rfl⟩

end Go.Proofs.YtddfdciohnabbacGreat
