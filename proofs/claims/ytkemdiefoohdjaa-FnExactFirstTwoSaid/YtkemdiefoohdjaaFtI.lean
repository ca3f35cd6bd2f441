/- FirstTwo: the program. -/
import Derived.Test.YtkemdiefoohdjaaCovT
import Derived.Test.YtkemdiefoohdjaaSdF
namespace Go.Proofs.Ytkemdiefoohdjaa
set_option linter.unusedVariables false
set_option linter.unusedSimpArgs false
open Go.RowKit

theorem slice_restT (g n cap k : Nat) (h : k ≤ n) (hc : n ≤ cap) : ∃ a, (k < cap → a = k) ∧ ∀ W, (Instr.slice 25 (.slice (some ⟨g, 0, none⟩) n cap) (some (.int .i64 (k : Int))) none none).run Try.prog W = .ok (.slice (some ⟨g, a, none⟩) (n - k) (cap - k)) W := by
  by_cases e : k < cap
  · refine ⟨k, fun _ => rfl, fun W => ?_⟩
    have hz := Try.sizeOf9 W
    simp [Instr.slice, run_underlying Try.underlying25, Instr.sliceBounds, sliced, Addr.add]
    rw [run_sliceBound W .i64 (k : Int) n _ (by omega) (by omega)]
    simp only [Result.andThen, Int.toNat_natCast]
    rw [if_neg (by omega)]
    by_cases e0 : k = 0
    · subst e0; rfl
    · rw [if_neg e0]
  · refine ⟨0, fun h => absurd h e, fun W => ?_⟩
    have hz := Try.sizeOf9 W
    simp [Instr.slice, run_underlying Try.underlying25, Instr.sliceBounds, sliced, Addr.add]
    rw [run_sliceBound W .i64 (k : Int) n _ (by omega) (by omega)]
    simp only [Result.andThen, Int.toNat_natCast]
    rw [if_pos (by omega)]

theorem ftF_end (x : ByteArray) (L : List ByteArray) : ftF x (L.drop L.length) = [] := by rw [List.drop_length]; rfl

set_option maxRecDepth 100000 in
set_option maxHeartbeats 4000000 in
theorem firstTwo1_any (b1 b2 : Nat) (x : ByteArray) (m : Int) (w : World) (c1 : Boxed w b1 9 (.string x)) (c2 : Boxed w b2 2 (.int .i64 m)) (sx : x.size ≤ maxLen) :
    Calls Try.prog 81 #[.pointer (some ⟨b1, 0, none⟩), .pointer (some ⟨b2, 0, none⟩)] w fun e w' => EndS (firstTwoR x m) w.heap.size e w' ∧ Below w.heap.size w w' := by
  have k1 := c1.cell
  have l1 := c1.lt
  have l2 := c2.lt
  by_cases h : IsW x
  · have H := Lib.hid h
    have hx := h.size
    by_cases h0 : m < 1 ∨ 60 < m
    · rw [firstTwoR_out h h0]
      clear h
      have hq' : ¬ 1 ≤ m ∨ (1 ≤ m ∧ decide (m ≤ 60) = false) := by
        by_cases hm : m < 1
        · exact .inl (by omega)
        · exact .inr ⟨by omega, decide_eq_false (by omega)⟩
      clear h0
      rcases hq' with hq' | ⟨hq', hq2'⟩
      all_goals
        go_enter Try.func81, Try.ntmps81
        go_wp2_with (first | (go_at_call 53; refine (isWord_yes x _ H.out).mono ?_; rintro e w1 ⟨rfl, a1⟩; have k3 := (boxed_past c2 a1 l2).cell; have k4 := (boxed_past c1 a1 l1).cell) | (go_at_call 46; first | (with_reducible refine (refuse_yes _ _).mono ?_; rintro e w2 ⟨rfl, rfl⟩) | (with_reducible refine (refuse_no _ _).mono ?_; rintro e w2 ⟨rfl, rfl⟩)))
        exact ⟨rfl, .inr ⟨rfl, rfl⟩, a1⟩
    · obtain ⟨n, rfl⟩ : ∃ n : Nat, m = n := ⟨m.toNat, by omega⟩
      have hq1 : (1 : Int) ≤ (n : Int) := by omega
      have hq2 : (n : Int) ≤ 60 := by omega
      have hn1 : 1 ≤ n := by omega
      have hn2 : n ≤ 60 := by omega
      have hf := fun W => impl_FactorsOf x (n : Int) W sx (WalkArith.wf_i64 (by omega))
      rw [factorsR_ok h hn2] at hf
      have hf2 : ∀ W, Calls Try.prog 82 #[.string x, .int .i64 (n : Int)] W (RetS (facs x n) 0 W) := hf
      have hl := facs_len x n
      have hz : ∀ z ∈ facs x n, z.size ≤ 60 := fun z hz => Nat.le_trans (facs_mem hz) hx
      have hr0 : ftF x (facs x n) = [] → firstTwoR x (n : Int) = ([], 4) := firstTwoR_none h hn1 hn2
      have hr1 : ∀ u v, ftF x (facs x n) = [u, v] → firstTwoR x (n : Int) = ([u, v], 0) := fun u v => firstTwoR_ok h hn1 hn2
      clear hf h h0
      generalize facs x n = L at *
      have HF := Lib.hid hf2
      have HZ := Lib.hid hz
      have HR0 := Lib.hid hr0
      have HR1 := Lib.hid hr1
      clear hf2 hz hr0 hr1
      go_enter Try.func81, Try.ntmps81
      go_wp2_with (first | (go_at_call 53; refine (isWord_yes x _ H.out).mono ?_; rintro e w2 ⟨rfl, a1⟩; have c3 := boxed_past c2 a1 l2; have k3 := c3.cell; have c4 := boxed_past c1 a1 l1; have k4 := c4.cell) | (go_at_call 46; with_reducible refine (refuse_yes _ _).mono ?_; rintro e w1 ⟨rfl, rfl⟩) | (go_at_call 82; refine (HF.out _).mono ?_; rintro e w3 ⟨v3, rfl, o3, b3⟩; obtain ⟨ad, cap, rfl, look⟩ := ownS_lkD o3; have c5 := boxed_past c4 b3 c4.lt))
      have LK := Lib.hid look
      have B3 := a1.then b3
      have hcap : 0 < L.length → L.length ≤ cap := fun h => by
        obtain ⟨g, _, _, h3, _⟩ := LK.out (L.length - 1) (by omega)
        omega
      clear look o3
      go_loopw [27] (fun s27 wr => ∃ k : Nat, k ≤ L.length ∧ s27 = .int .i64 (k : Int) ∧ Hid (ftF x L = ftF x (L.drop k)) ∧ Below w3.heap.size w3 wr)
        (fun s27 _ => L.length - (intOf s27).toNat)
      case atStart => exact ⟨0, Nat.zero_le _, rfl, Lib.hid rfl, Below.refl _ _⟩
      case round =>
        obtain ⟨k, hk, rfl, hi, hB⟩ := hrel
        by_cases hp : k < L.length
        · obtain ⟨g, rfl, hg2, hg3, hg4⟩ := LK.out k hp
          have kc : wr.cell? ⟨g, k, none⟩ = some (.string (L[k]'hp)) := by rw [(bcell hB).1 g k hg2]; exact hg4
          have hkn : (k : Int) < (L.length : Int) := by omega
          have hk0 : (0 : Int) ≤ (k : Int) := by omega
          obtain ⟨q, hq⟩ : ∃ q : Nat, k + 1 = q := ⟨_, rfl⟩
          have eq1 : (k : Int) + 1 = (q : Int) := by omega
          obtain ⟨a, ha, hsl⟩ := slice_restT g L.length cap q (by omega) (hcap (by omega))
          have zu := HZ.out _ (List.getElem_mem hp)
          clear hg4
          obtain ⟨N, hN⟩ : ∃ N : Nat, L.length - q = N := ⟨_, rfl⟩
          rw [hN] at hsl
          obtain ⟨u, hu⟩ : ∃ u, L[k]'hp = u := ⟨_, rfl⟩
          rw [hu] at kc zu
          have HUK := Lib.hid hu
          clear hu
          have c6 := boxed_past c5 hB c5.lt
          have k6 := c6.cell
          go_wp2_with fail
          go_loopw [37] (fun s37 wr2 => ∃ j : Nat, j ≤ N ∧ s37 = .int .i64 (j : Int) ∧ Hid (∀ i (hi : i < L.length), k < i → i < q + j → cvTwo x u (L[i]'hi) = false) ∧ Below w3.heap.size w3 wr2)
            (fun s37 _ => N - (intOf s37).toNat)
          case atStart => exact ⟨0, Nat.zero_le _, rfl, Lib.hid (fun i _ h1 h2 => by omega), hB⟩
          case round =>
            clear kc k6 hB
            obtain ⟨j, hj, rfl, hi2, hB⟩ := hrel
            have k6 := (boxed_past c5 hB c5.lt).cell
            by_cases hjn : j < N
            · have hql : q + j < L.length := by omega
              have hcp := hcap (by omega)
              obtain rfl := ha (by omega)
              obtain ⟨g2, hg1, hg2', hg3', hg4⟩ := LK.out (a + j) hql
              cases hg1
              have kc : wr.cell? ⟨g, a + j, none⟩ = some (.string (L[a + j]'hql)) := by rw [(bcell hB).1 g (a + j) hg2]; exact hg4
              have zv := HZ.out _ (List.getElem_mem hql)
              have hjN : (j : Int) < (N : Int) := by omega
              have hj0 : (0 : Int) ≤ (j : Int) := by omega
              clear hg4
              obtain ⟨v, hv⟩ : ∃ v, L[a + j]'hql = v := ⟨_, rfl⟩
              rw [hv] at kc zv
              have hc := fun W => coversAll_pair x u v W hx zu zv
              cases ht : cvTwo x u v with
              | true =>
                have e0 : ftF x L = [u, v] := by
                  rw [hi.out, ftF_hit (i := k) (k := a + j) (by omega) hql (fun i hi3 h1 h2 => by rw [HUK.out]; exact hi2.out i hi3 h1 h2) (by rw [HUK.out, hv]; exact ht), HUK.out, hv]
                have E0 := Lib.hid (HR1.out _ _ e0)
                rw [ht] at hc
                have HC := Lib.hid hc
                clear hc ht e0 hi hi2 hv
                go_wp2_with (go_at_call 48; refine (HC.out _).mono ?_; rintro e w5 ⟨rfl, b5⟩)
                go_ret
                refine ⟨?_, ((B3.then hB).then b5).alloc (((B3.then hB).then b5).size) _⟩
                rw [E0.out]
                refine .inl ⟨_, rfl, ?_, rfl⟩
                exact own_base (World.ownsRow_lit w5 #[.string u, .string v] 2 (Nat.le_refl _) (by decide) (by simp)) (((B3.then hB).then b5).size)
              | false =>
                have hi3 : Hid (∀ i (hi : i < L.length), k < i → i < a + (j + 1) → cvTwo x u (L[i]'hi) = false) := Lib.hid fun i hi4 h1 h2 => by
                  by_cases e : i = a + j
                  · subst e; rw [hv]; exact ht
                  · exact hi2.out i hi4 h1 (by omega)
                rw [ht] at hc
                have HC := Lib.hid hc
                clear hc ht hi2 hv
                go_wp2_with (go_at_call 48; refine (HC.out _).mono ?_; rintro e w5 ⟨rfl, b5⟩)
                go_roundw
                case rel => exact ⟨j + 1, by omega, by go_num, hi3, hB.then b5⟩
                case measure => simp [intOf]; omega
            · obtain rfl : j = N := by omega
              have hjN : ¬ (j : Int) < (j : Int) := by omega
              have hi4 : Hid (ftF x L = ftF x (L.drop (k + 1))) := Lib.hid (by
                rw [hi.out]
                exact ftF_skip hp (fun i hi3 h1 => by rw [HUK.out]; exact hi2.out i hi3 h1 (by omega)))
              clear hi hi2 hsl
              go_wp2_with fail
              go_roundw
              case rel => exact ⟨k + 1, by omega, by go_num, hi4, hB⟩
              case measure => simp [intOf]; omega
        · obtain rfl : k = L.length := by omega
          have hkn : ¬ (L.length : Int) < (L.length : Int) := by omega
          have e0 : ftF x L = [] := by rw [hi.out]; exact ftF_end x L
          have E0 := Lib.hid (HR0.out e0)
          clear e0 hi
          go_wp2_with fail
          exact ⟨rfl, by rw [E0.out]; exact .inr ⟨rfl, rfl⟩, B3.then hB⟩
  · rw [firstTwoR_bad h]
    have H := Lib.hid h
    clear h
    go_enter Try.func81, Try.ntmps81
    go_wp2_with (first | (go_at_call 53; refine (isWord_not x _ sx H.out).mono ?_; rintro e w1 ⟨rfl, a1⟩) | (go_at_call 46; refine (refuse_no _ _).mono ?_; rintro e w2 ⟨rfl, rfl⟩))
    exact ⟨rfl, .inr ⟨rfl, rfl⟩, a1⟩

set_option maxRecDepth 100000 in
theorem impl_FirstTwo (x : ByteArray) (m : Int) (w : World) (sx : x.size ≤ maxLen) (wm : (Lit.int .i64 m).wf = true) :
    Calls Try.prog 41 #[.string x, .int .i64 m] w (RetS (firstTwoR x m).1 (firstTwoR x m).2 w) := by
  have hmf : ∀ (fn : Fn) (first cap : Array Value) (w : World), (Instr.makeFunc fn first cap).run Try.prog w = .ok (.func fn first cap) w := fun _ _ _ _ => rfl
  have c1 : Boxed (((w.alloc (.cells #[.string x] 9)).alloc (.cells #[.int .i64 m] 2)).alloc (.cells #[.int .i64 0] 2)) w.heap.size 9 (.string x) := ((Boxed.new w _ _).alloc _).alloc _
  have c2 : Boxed (((w.alloc (.cells #[.string x] 9)).alloc (.cells #[.int .i64 m] 2)).alloc (.cells #[.int .i64 0] 2)) (w.heap.size + 1) 2 (.int .i64 m) := by
    have := Boxed.new (w.alloc (.cells #[.string x] 9)) 2 (.int .i64 m)
    rw [World.size_alloc] at this
    exact this.alloc _
  have hB : Below w.heap.size w ((w.alloc (.cells #[.string x] 9)).alloc (.cells #[.int .i64 m] 2)) := (Below.new _ _).alloc (by simp) _
  go_enter Try.func41, Try.ntmps41
  go_wp2_with (go_at_call 51; refine (door_list 81 _ _ (firstTwoR x m) (enters_of Try.func81 (by kernel_rfl) rfl) (firstTwo1_any _ _ x m _ c1 c2 sx)).mono ?_; rintro e w1 ⟨v, rfl, o1, b1⟩)
  go_ret2
  exact ⟨_, rfl, o1.base (by simp; omega), hB.trans (b1.mono (by simp; omega))⟩

end Go.Proofs.Ytkemdiefoohdjaa
