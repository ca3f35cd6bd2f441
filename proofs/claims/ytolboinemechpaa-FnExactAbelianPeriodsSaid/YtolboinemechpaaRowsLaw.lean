/- Slices of slices of numbers: alike, marked, still marked. -/
import Derived.Test.YtolboinemechpaaRows2
namespace Go.Proofs.Ytolboinemechpaa
set_option linter.unusedVariables false
set_option linter.unusedSimpArgs false
open Go.RowKit

set_option maxRecDepth 100000 in
set_option maxHeartbeats 1000000 in
theorem eqR_yes (B1 B2 : Nat) (v1 v2 : Value) (L : List (List Int)) (w : World) (h1 : OwnR w B1 v1 L) (h2 : OwnR w B2 v2 L) :
    Calls Try.prog 31 #[v1, v2] w fun e w' => e = .returned (.bool true) ∧ Below w.heap.size w w' := by
  by_cases h0 : L = []
  · subst h0
    obtain ⟨a1, c1, rfl⟩ := h1.empty
    obtain ⟨a2, c2, rfl⟩ := h2.empty
    clear h1 h2
    go_enter Try.func31, Try.ntmps31
    go_wp2
    refine wp_loop_rounds 1 ?_
    rw [rounds_succ]
    go_wp2
    go_ret
    exact ⟨rfl, Below.refl _ _⟩
  · have hn : 0 < L.length := List.length_pos_iff.2 h0
    obtain ⟨g1, c1, us1, rfl, _, hg1, hc1, hm, cell1, r1, _⟩ := h1.row hn
    obtain ⟨g2, c2, us2, rfl, _, hg2, hc2, _, cell2, r2, _⟩ := h2.row hn
    unfold maxLen at hm
    have C1 := Lib.hid cell1
    have C2 := Lib.hid cell2
    have R1 := Lib.hid r1
    have R2 := Lib.hid r2
    clear h1 h2 cell1 cell2 h0 r1 r2
    go_enter Try.func31, Try.ntmps31
    go_wp2
    go_loopw [5] (fun i wr => ∃ k : Nat, k ≤ L.length ∧ i = .int .i64 k ∧ Below w.heap.size w wr) (fun i _ => L.length - (intOf i).toNat)
    case atStart => exact ⟨0, Nat.zero_le _, rfl, Below.refl _ _⟩
    case round =>
      obtain ⟨k, hk, rfl, hB⟩ := hrel
      by_cases hp : k < L.length
      · have k1 : wr.cell? ⟨g1, k, none⟩ = some (us1.getD k undef) := by rw [(bcell hB).1 g1 k hg1]; exact C1.out k hp
        have k2 : wr.cell? ⟨g2, k, none⟩ = some (us2.getD k undef) := by rw [(bcell hB).1 g2 k hg2]; exact C2.out k hp
        have o1 := Lib.hid (((R1.out).below hB).2.1 k (by rw [R1.out.1]; exact hp))
        have o2 := Lib.hid (((R2.out).below hB).2.1 k (by rw [R2.out.1]; exact hp))
        have hpc1 : k < c1 := by omega
        have hpc2 : k < c2 := by omega
        generalize us1.getD k undef = u1 at *
        generalize us2.getD k undef = u2 at *
        go_wp2
        go_quiet ((go_at_call 25; exact Calls.quiet_of (eqI_q _ _ u1 u2 _ _ (o1.out.below ((Below.refl _ _).drewN _)) (o2.out.below ((Below.refl _ _).drewN _)))))
        go_wp2
        go_roundw
        case rel => exact ⟨k + 1, by omega, by go_num, hB.drewN _⟩
        case measure => simp [intOf]; omega
      · go_wp2
        go_ret
        exact ⟨rfl, hB⟩

/-- The rows ahead of j are marked. -/
def RowsMix (w : World) (B : Nat) (us : List Value) (L : List (List Int)) (m : Int) (j : Nat) : Prop :=
  us.length = L.length ∧ (∀ i, i < us.length → OwnI w B (us.getD i undef) (if i < j then (marksR m L).getD i [] else L.getD i [])) ∧
  ∀ i j a b, i < j → j < us.length → (us.getD i undef).ownBlock = some a → (us.getD j undef).ownBlock = some b → a < b
theorem RowsMix.start {w : World} {B : Nat} {us : List Value} {L : List (List Int)} (h : RowsIn w B us L) (m : Int) : RowsMix w B us L m 0 :=
  ⟨h.1, fun i hi => by rw [if_neg (by omega)]; exact h.2.1 i hi, h.2.2⟩
theorem RowsMix.at {w : World} {B : Nat} {us : List Value} {L : List (List Int)} {m : Int} {j : Nat} (h : RowsMix w B us L m j) (hj : j < L.length) : OwnI w B (us.getD j undef) (L.getD j []) := by
  have := h.2.1 j (by rw [h.1]; exact hj)
  rwa [if_neg (by omega)] at this
theorem RowsMix.step {w w' : World} {B : Nat} {us : List Value} {L : List (List Int)} {m : Int} {j : Nat} (h : RowsMix w B us L m j) (hj : j < L.length)
    (ho : OwnI w' B (us.getD j undef) (marks (m + (totR (L.take j) : Int)) (L.getD j []).length)) (hg : w.grownBy w' (us.getD j undef).ownBlock) : RowsMix w' B us L m (j + 1) := by
  have hl := h.1
  refine ⟨hl, fun i hi => ?_, h.2.2⟩
  by_cases e : i = j
  · subst e
    rw [if_pos (by omega), marksR_get m L i hj]
    exact ho
  · have h1 : (if i < j + 1 then (marksR m L).getD i [] else L.getD i []) = (if i < j then (marksR m L).getD i [] else L.getD i []) := by
      by_cases c : i < j
      · rw [if_pos c, if_pos (by omega)]
      · rw [if_neg c, if_neg (by omega)]
    rw [h1]
    refine own_other (h.2.1 i hi) hg fun k hk c => ?_
    rcases Nat.lt_or_ge i j with q | q
    · have := h.2.2 i j k k q (by omega) hk c
      omega
    · have := h.2.2 j i k k (by omega) hi c hk
      omega
theorem RowsMix.done {w : World} {B : Nat} {us : List Value} {L : List (List Int)} {m : Int} (h : RowsMix w B us L m L.length) : RowsIn w B us (marksR m L) :=
  ⟨by rw [marksR_len]; exact h.1, fun i hi => by have := h.2.1 i hi; rwa [if_pos (by have := h.1; omega)] at this, h.2.2⟩

theorem own_cell {w : World} {B : Nat} {e : TypeId} {g n' cap n : Nat} {xs : List Value} (h : w.ownsRow B e 1 (.slice (some ⟨g, 0, none⟩) n' cap) n xs) {j : Nat} (hj : j < n) : w.cell? ⟨g, j, none⟩ = xs[j]? := by
  rcases own_forms h with ⟨h1, _, _⟩ | ⟨g', c', h1, _, _, _, _, h5, _⟩
  · cases h1
  · simp only [Value.slice.injEq, Option.some.injEq, Addr.mk.injEq] at h1
    rw [h1.1.1]
    exact h5 j hj

set_option maxRecDepth 100000 in
set_option maxHeartbeats 1000000 in
theorem markR (B : Nat) (v : Value) (L : List (List Int)) (m : Int) (w : World) (h : OwnR w B v L) (m0 : 0 ≤ m) (m1 : m ≤ 1000000) (hl : L.length ≤ 1000000) (ht : totR L ≤ 1000000) :
    Calls Try.prog 32 #[v, .int .i64 m] w fun e w' => e = .returned (.int .i64 (m + (totR L : Int))) ∧ OwnR w' B v (marksR m L) ∧ Below (min B w.heap.size) w w' := by
  by_cases h0 : L = []
  · subst h0
    obtain ⟨a1, c1, rfl⟩ := h.empty
    have H := Lib.hid h
    clear h
    go_enter Try.func32, Try.ntmps32
    go_wp2
    refine wp_loop_rounds 1 ?_
    rw [rounds_succ]
    go_wp2
    go_ret
    exact ⟨by simp [totR], by simpa [marksR] using H.out, Below.refl _ _⟩
  · have hn : 0 < L.length := List.length_pos_iff.2 h0
    obtain ⟨g, c, us, rfl, hBg, hg, hc, hm, cell, rows, own⟩ := h.row hn
    have C := Lib.hid cell
    have OW := Lib.hid own
    have RM := Lib.hid (RowsMix.start rows m)
    have HU := Lib.hid rows.1
    have HT := Lib.hid ht
    clear h h0 cell own rows ht
    go_enter Try.func32, Try.ntmps32
    go_wp2
    go_loopw [1, 5] (fun q i wr => ∃ j : Nat, j ≤ L.length ∧ i = .int .i64 j ∧ q = .int .i64 (m + (totR (L.take j) : Int)) ∧ Hid (RowsMix wr B us L m j) ∧ Hid (wr.ownsRow B 30 1 (.slice (some ⟨g, 0, none⟩) L.length c) us.length us) ∧ Below (min B w.heap.size) w wr)
      (fun _ i _ => L.length - (intOf i).toNat)
    case atStart => exact ⟨0, Nat.zero_le _, rfl, by simp [totR], RM, OW, Below.refl _ _⟩
    case round =>
      obtain ⟨j, hj, rfl, rfl, HM, HO, hB⟩ := hrel
      clear RM OW
      have t1 := totR_take_le L j
      have t2 := HT.out
      by_cases hp : j < L.length
      · have k1 : wr.cell? ⟨g, j, none⟩ = some (us.getD j undef) := by
          have hu := HU.out
          rw [own_cell HO.out (by omega), getD_at _ _ (by omega)]
          exact List.getElem?_eq_getElem _
        have hpc : j < c := by omega
        have tsn := totR_snoc L j hp
        have t3 := totR_take_le L (j + 1)
        have oI := HM.out.at hp
        have HS := Lib.hid (fun w' => HM.out.step (w' := w') hp)
        have HA := Lib.hid (fun k (hk : (us.getD j undef).ownBlock = some k) => own_apart oI HO.out (by decide) hk)
        have HLt := Lib.hid oI.lt
        have TSN := Lib.hid tsn
        clear HM
        generalize us.getD j undef = u at *
        generalize L.getD j [] = R at *
        have CI := Lib.hid (markI B u R (m + (totR (L.take j) : Int)) wr oI (by omega) (by omega) (by omega))
        have tb : (0 : Int) ≤ (totR (L.take j) : Int) := by omega
        have tb2 : (totR (L.take j) : Int) ≤ 1000000 := by omega
        have rb : (R.length : Int) ≤ 1000000 := by omega
        clear oI tsn
        generalize totR (L.take j) = T at *
        go_wp2_with fail
        refine CI.out.mono ?_
        rintro e w2 ⟨rfl, o2, g2⟩
        have hown2 := own_other HO.out g2 (fun k hk c => HA.out k c hk)
        have hb2 : Below (min B w.heap.size) w w2 := hB.grown g2 (Nat.le_trans (Nat.min_le_right _ _) hB.size) (fun k hk => Nat.le_trans (Nat.min_le_left _ _) (HLt.out k hk).1)
        have HS2 := Lib.hid (HS.out w2 o2 g2)
        have HO2 := Lib.hid hown2
        clear o2 g2 hown2
        go_wp2_with fail
        go_roundw
        case rel => exact ⟨j + 1, by omega, by go_num, by rw [TSN.out]; go_num, HS2, HO2, hb2⟩
        case measure => simp [intOf]; omega
      · have hke : j = L.length := by omega
        subst hke
        rw [totR_all]
        go_wp2
        go_ret
        exact ⟨rfl, ⟨us, HO.out, HM.out.done⟩, hB⟩

set_option maxRecDepth 100000 in
set_option maxHeartbeats 1000000 in
theorem heldR (B : Nat) (v : Value) (L : List (List Int)) (m : Int) (w : World) (h : OwnR w B v (marksR m L)) (m0 : 0 ≤ m) (m1 : m ≤ 1000000) (hl : L.length ≤ 1000000) (ht : totR L ≤ 1000000) :
    Calls Try.prog 33 #[v, .int .i64 m] w fun e w' => e = .returned (.int .i64 (m + (totR L : Int))) ∧ Below w.heap.size w w' := by
  by_cases h0 : L = []
  · subst h0
    obtain ⟨a1, c1, rfl⟩ := OwnR.empty (show OwnR w B v [] by simpa [marksR] using h)
    clear h
    go_enter Try.func33, Try.ntmps33
    go_wp2
    refine wp_loop_rounds 1 ?_
    rw [rounds_succ]
    go_wp2
    go_ret
    exact ⟨by simp [totR], Below.refl _ _⟩
  · have hn : 0 < L.length := List.length_pos_iff.2 h0
    have hnm : 0 < (marksR m L).length := by rw [marksR_len]; exact hn
    obtain ⟨g, c, us, hv, hBg, hg, hc, hm, cell, rows, own⟩ := h.row hnm
    rw [marksR_len] at hv hc cell
    subst hv
    have C := Lib.hid cell
    have RW := Lib.hid rows
    have HU : Hid (us.length = L.length) := Lib.hid (by rw [rows.1, marksR_len])
    have HT := Lib.hid ht
    clear h h0 cell own rows ht hnm hm
    go_enter Try.func33, Try.ntmps33
    go_wp2
    go_loopw [1, 5] (fun q i wr => ∃ j : Nat, j ≤ L.length ∧ i = .int .i64 j ∧ q = .int .i64 (m + (totR (L.take j) : Int)) ∧ Below w.heap.size w wr)
      (fun _ i _ => L.length - (intOf i).toNat)
    case atStart => exact ⟨0, Nat.zero_le _, rfl, by simp [totR], Below.refl _ _⟩
    case round =>
      obtain ⟨j, hj, rfl, rfl, hB⟩ := hrel
      have t1 := totR_take_le L j
      have t2 := HT.out
      by_cases hp : j < L.length
      · have k1 : wr.cell? ⟨g, j, none⟩ = some (us.getD j undef) := by rw [(bcell hB).1 g j hg]; exact C.out j hp
        have hpc : j < c := by omega
        have tsn := totR_snoc L j hp
        have t3 := totR_take_le L (j + 1)
        have oI := (RW.out.below hB).2.1 j (by have := HU.out; omega)
        rw [marksR_get m L j hp] at oI
        have TSN := Lib.hid tsn
        generalize us.getD j undef = u at *
        generalize L.getD j [] = R at *
        have CI := Lib.hid (heldI B u R.length (m + (totR (L.take j) : Int)) wr oI (by omega) (by omega) (by omega))
        have tb : (0 : Int) ≤ (totR (L.take j) : Int) := by omega
        have tb2 : (totR (L.take j) : Int) ≤ 1000000 := by omega
        have rb : (R.length : Int) ≤ 1000000 := by omega
        clear oI tsn
        generalize totR (L.take j) = T at *
        go_wp2_with fail
        refine CI.out.mono ?_
        rintro e w2 ⟨rfl, b2⟩
        go_wp2_with fail
        go_roundw
        case rel => exact ⟨j + 1, by omega, by go_num, by rw [TSN.out]; go_num, hB.then b2⟩
        case measure => simp [intOf]; omega
      · have hke : j = L.length := by omega
        subst hke
        rw [totR_all]
        go_wp2
        go_ret
        exact ⟨rfl, hB⟩

end Go.Proofs.Ytolboinemechpaa
