/- FirstTwo: the model. -/
import Derived.Test.YtkemdiefoohdjaaCovTS
import Derived.Test.YtkemdiefoohdjaaSdL
namespace Go.Proofs.Ytkemdiefoohdjaa
set_option linter.unusedVariables false
set_option linter.unusedSimpArgs false
open Go.RowKit

theorem ftF_endS (x : ByteArray) (L : List ByteArray) : ftF x (L.drop L.length) = [] := by rw [List.drop_length]; rfl
theorem two_past {w W w1 : World} {p q : Addr} {a b : Value} (b1 : Below W.heap.size W w1) (h : W.cell? p = some a ∧ W.cell? q = some b ∧ Below w.heap.size w W) (hp : p.block < w.heap.size) (hq : q.block < w.heap.size) :
    w1.cell? p = some a ∧ w1.cell? q = some b ∧ Below w.heap.size w w1 := by
  have hs := h.2.2.size
  exact ⟨by rw [b1.cell (by omega)]; exact h.1, by rw [b1.cell (by omega)]; exact h.2.1, h.2.2.then b1⟩

set_option maxRecDepth 100000 in
set_option maxHeartbeats 4000000 in
theorem spec_FirstTwo (x : ByteArray) (m : Int) (w : World) (sx : x.size ≤ maxLen) (wm : (Lit.int .i64 m).wf = true) :
    Calls Try.prog 40 #[.string x, .int .i64 m] w (RetS (firstTwoR x m).1 (firstTwoR x m).2 w) := by
  have hmo : Try.prog.follows .mixedOrders = true := by kernel_rfl
  by_cases h : IsW x
  · by_cases k0 : m < 1 ∨ 60 < m
    · have e1 : lenC x m = 2 := by unfold lenC; rw [if_neg (not_not_intro h), if_pos k0]
      rw [firstTwoR_out h k0]
      clear h k0
      go_enter Try.func40, Try.ntmps40
      go_wp2_with (go_at_call 64; refine (l09Length_any x m _ sx).mono ?_; rintro e w1 ⟨rfl, a1⟩)
      go_ret2
      exact ⟨_, rfl, OwnS.nil _ _, a1⟩
    · have e1 : lenC x m = 0 := by unfold lenC; rw [if_neg (not_not_intro h), if_neg k0]
      obtain ⟨n, rfl⟩ : ∃ n : Nat, m = n := ⟨m.toNat, by omega⟩
      have hx := h.size
      have hn1 : 1 ≤ n := by omega
      have hn2 : n ≤ 60 := by omega
      have hf : ∀ W, Calls Try.prog 80 #[.string x, .int .i64 (n : Int)] W fun e w' => ∃ v, e = .returned v ∧ OwnS w' W.heap.size v (facs x n) ∧ Below W.heap.size W w' := fun W => l01Factors_any x n W hx hn2
      have hl := facs_len x n
      have hz : ∀ z ∈ facs x n, z.size ≤ 60 := fun z hz => Nat.le_trans (facs_bound hz).2 hx
      have hr0 : ftF x (facs x n) = [] → firstTwoR x (n : Int) = ([], 4) := firstTwoR_none h hn1 hn2
      have hr1 : ∀ u v, ftF x (facs x n) = [u, v] → firstTwoR x (n : Int) = ([u, v], 0) := fun u v => firstTwoR_ok h hn1 hn2
      clear h k0
      generalize facs x n = L at *
      have HF := Lib.hid hf
      have HZ := Lib.hid hz
      have HR0 := Lib.hid hr0
      have HR1 := Lib.hid hr1
      clear hf hz hr0 hr1
      generalize hR : firstTwoR x (n : Int) = R at *
      clear hR
      go_enter Try.func40, Try.ntmps40
      go_wp2_with (first | (go_at_call 64; refine (l09Length_any x n _ sx).mono ?_; rintro e w1 ⟨rfl, a1⟩) | (go_at_call 80; refine (HF.out _).mono ?_; rintro e w3 ⟨v3, rfl, o3, b3⟩; obtain ⟨ad, cap, rfl, look⟩ := ownS_lkS o3))
      have LK := Lib.hid look
      have B3 := a1.then b3
      clear look o3
      go_loopw [8] (fun s8 wr => ∃ k : Nat, k ≤ L.length ∧ s8 = .int .i64 (k : Int) ∧ Hid (ftF x L = ftF x (L.drop k)) ∧ Below w3.heap.size w3 wr)
        (fun s8 _ => L.length - (intOf s8).toNat)
      case atStart => exact ⟨0, Nat.zero_le _, rfl, Lib.hid rfl, Below.refl _ _⟩
      case round =>
        obtain ⟨k, hk, rfl, hi, hB⟩ := hrel
        by_cases hp : k < L.length
        · obtain ⟨g, rfl, hg2, hg3, hg4⟩ := LK.out k hp
          have hkn : (k : Int) < (L.length : Int) := by omega
          have hk0 : (0 : Int) ≤ (k : Int) := by omega
          have zu := HZ.out _ (List.getElem_mem hp)
          obtain ⟨u, hu⟩ : ∃ u, L[k]'hp = u := ⟨_, rfl⟩
          rw [hu] at hg4 zu
          have HUK := Lib.hid hu
          clear hu
          have HGU := Lib.hid hg4
          clear hg4
          have hkc : k < cap := hg3
          go_wp2_with fail
          go_loopw [9] (fun s9 wr2 => ∃ j : Nat, k < j ∧ j ≤ L.length ∧ s9 = .int .i64 (j : Int) ∧ Hid (∀ i (hi : i < L.length), k < i → i < j → cvTwo x u (L[i]'hi) = false) ∧ Below w3.heap.size w3 wr2)
            (fun s9 _ => L.length - (intOf s9).toNat)
          case atStart => exact ⟨k + 1, by omega, hp, by go_num, Lib.hid (fun i _ h1 h2 => by omega), hB⟩
          case round =>
            clear hB
            obtain ⟨j, hj0, hj, rfl, hi2, hB⟩ := hrel
            by_cases hjn : j < L.length
            · obtain ⟨g2, hg1, hg2', hg3', hg4⟩ := LK.out j hjn
              cases hg1
              have kc0 : wr.cell? ⟨g, k, none⟩ = some (.string u) := by rw [(bcell hB).1 g k hg2]; exact HGU.out
              have kc : wr.cell? ⟨g, j, none⟩ = some (.string (L[j]'hjn)) := by rw [(bcell hB).1 g j hg2]; exact hg4
              have zv := HZ.out _ (List.getElem_mem hjn)
              have hjN : (j : Int) < (L.length : Int) := by omega
              have hjz : (0 : Int) ≤ (j : Int) := by omega
              clear hg4
              obtain ⟨v, hv⟩ : ∃ v, L[j]'hjn = v := ⟨_, rfl⟩
              rw [hv] at kc zv
              have hc := fun W => l09Two_any x u v W hx zu zv
              cases ht : cvTwo x u v with
              | true =>
                have e0 : ftF x L = [u, v] := by
                  rw [hi.out, ftF_hit (i := k) (k := j) hj0 hjn (fun i hi3 h1 h2 => by rw [HUK.out]; exact hi2.out i hi3 h1 h2) (by rw [HUK.out, hv]; exact ht), HUK.out, hv]
                have E0 := Lib.hid (HR1.out _ _ e0)
                rw [ht] at hc
                have HC := Lib.hid hc
                clear hc ht e0 hi hi2 hv
                go_upto_region 11 with fail
                go_region_held3 (fun w' => w'.cell? ⟨g, k, none⟩ = some (.string u) ∧ w'.cell? ⟨g, j, none⟩ = some (.string v) ∧ Below w3.heap.size w3 w') (first | assumption | exact ⟨kc0, kc, hB⟩ | exact ⟨kc0, kc, hB.drew⟩ | (refine ⟨?_, ?_, ?_⟩ <;> first | assumption | exact Below.drew (by assumption) | go_keep)) (first | (go_at_call 78; refine (HC.out _).mono ?_; rintro e w5 ⟨rfl, b5⟩; have kp := two_past b5 (by first | assumption | exact ⟨by assumption, by assumption, by assumption⟩ | exact ⟨kc0, kc, hB⟩ | exact ⟨kc0, kc, hB.drew⟩) hg2 hg2))
                all_goals (try go_wp2_with fail)
                all_goals (
                  obtain ⟨q1, q2, q3⟩ := (by assumption : (_ ∧ _ ∧ Below w3.heap.size w3 _))
                  go_region
                  go_wp2_with fail
                  go_ret2
                  rw [E0.out]
                  refine ⟨_, rfl, own_base (World.ownsRow_lit _ #[.string u, .string v] 2 (Nat.le_refl _) (by decide) (by simp)) ((B3.then q3.drew).size), (B3.then q3.drew).alloc ((B3.then q3.drew).size) _⟩)
              | false =>
                have hi3 : Hid (∀ i (hi : i < L.length), k < i → i < j + 1 → cvTwo x u (L[i]'hi) = false) := Lib.hid fun i hi4 h1 h2 => by
                  by_cases e : i = j
                  · subst e; rw [hv]; exact ht
                  · exact hi2.out i hi4 h1 (by omega)
                rw [ht] at hc
                have HC := Lib.hid hc
                clear hc ht hi2 hv
                go_upto_region 11 with fail
                go_region_held3 (fun w' => w'.cell? ⟨g, k, none⟩ = some (.string u) ∧ w'.cell? ⟨g, j, none⟩ = some (.string v) ∧ Below w3.heap.size w3 w') (first | assumption | exact ⟨kc0, kc, hB⟩ | exact ⟨kc0, kc, hB.drew⟩ | (refine ⟨?_, ?_, ?_⟩ <;> first | assumption | exact Below.drew (by assumption) | go_keep)) (first | (go_at_call 78; refine (HC.out _).mono ?_; rintro e w5 ⟨rfl, b5⟩; have kp := two_past b5 (by first | assumption | exact ⟨by assumption, by assumption, by assumption⟩ | exact ⟨kc0, kc, hB⟩ | exact ⟨kc0, kc, hB.drew⟩) hg2 hg2))
                all_goals (try go_wp2_with fail)
                all_goals (
                  obtain ⟨q1, q2, q3⟩ := (by assumption : (_ ∧ _ ∧ Below w3.heap.size w3 _))
                  go_roundw
                  case rel => exact ⟨j + 1, by omega, by omega, by go_num, hi3, q3⟩
                  case measure => simp [intOf]; omega)
            · obtain rfl : j = L.length := by omega
              have hjN : ¬ (L.length : Int) < (L.length : Int) := by omega
              have hi4 : Hid (ftF x L = ftF x (L.drop (k + 1))) := Lib.hid (by
                rw [hi.out]
                exact ftF_skip hp (fun i hi3 h1 => by rw [HUK.out]; exact hi2.out i hi3 h1 hi3))
              clear hi hi2
              go_wp2_with fail
              go_roundw
              case rel => exact ⟨k + 1, by omega, by go_num, hi4, hB⟩
              case measure => simp [intOf]; omega
        · obtain rfl : k = L.length := by omega
          have hkn : ¬ (L.length : Int) < (L.length : Int) := by omega
          have e0 : ftF x L = [] := by rw [hi.out]; exact ftF_endS x L
          have E0 := Lib.hid (HR0.out e0)
          clear e0 hi
          go_wp2_with fail
          go_ret2
          rw [E0.out]
          exact ⟨_, rfl, OwnS.nil _ _, B3.then hB⟩
  · have e1 : lenC x m = 1 := by unfold lenC; rw [if_pos h]
    rw [firstTwoR_bad h]
    clear h
    go_enter Try.func40, Try.ntmps40
    go_wp2_with (go_at_call 64; refine (l09Length_any x m _ sx).mono ?_; rintro e w1 ⟨rfl, a1⟩)
    go_ret2
    exact ⟨_, rfl, OwnS.nil _ _, a1⟩

end Go.Proofs.Ytkemdiefoohdjaa
