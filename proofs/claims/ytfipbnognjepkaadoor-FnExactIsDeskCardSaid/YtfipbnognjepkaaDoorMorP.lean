/- Morphisms: the test of the program. -/
import Derived.Test.YtfipbnognjepkaaDoorMorI
namespace Go.Proofs.YtfipbnognjepkaaDoor
set_option linter.unusedVariables false
set_option linter.unusedSimpArgs false
open Go.RowKit

set_option maxRecDepth 100000 in
set_option maxHeartbeats 1000000 in
theorem isMor_yes (B : Nat) (v : Value) (I : List (List UInt8)) (w : World) (h : OwnS w B v (I.map bt)) (g : Mor I) :
    Calls Tryd.prog 63 #[.agg #[v]] w fun e w' => e = .returned (.bool true) ∧ Below w.heap.size w w' := by
  have h1 := g.len1
  have h5 := g.len5
  obtain ⟨p, cap, rfl, hg, hc, cell⟩ := h.rowM (by omega)
  have C := Lib.hid cell
  have G := Lib.hid g
  clear h cell g
  go_enter Tryd.func63, Tryd.ntmps63
  go_wp2_with fail
  obtain ⟨W1, hW1⟩ : ∃ W1 : World, W1 = w.alloc (.cells #[.slice (some ⟨p, 0, none⟩) I.length cap] 29) := ⟨_, rfl⟩
  have kr : W1.cell? ⟨w.heap.size, 0, none⟩ = some (.slice (some ⟨p, 0, none⟩) I.length cap) := by rw [hW1]; exact World.cell?_alloc_new _ _ _ _
  have B1 : Below w.heap.size w W1 := by rw [hW1]; exact Below.new _ _
  rw [← hW1]
  clear hW1
  go_loopw [18] (fun i wr => ∃ k : Nat, k ≤ I.length ∧ i = .int .i64 k ∧ Below W1.heap.size W1 wr) (fun i _ => I.length - (intOf i).toNat)
  case atStart => exact ⟨0, Nat.zero_le _, rfl, Below.refl _ _⟩
  case round =>
    obtain ⟨k, hk, rfl, hB⟩ := hrel
    have BW := B1.then hB
    by_cases hp : k < I.length
    · have kc : wr.cell? ⟨p, k, none⟩ = some (.string (bt (I[k]'hp))) := by rw [(bcell BW).1 p k hg]; exact C.out k hp
      obtain ⟨s12, sw, sf⟩ := G.out.im k hp
      generalize bt (I[k]'hp) = z at kc s12 sw sf
      have c1 := fun W => isWord_yes z W sw
      have c2 := fun W => hasFirst_yes z I.length W sw sf h5
      have hkc : k < cap := by omega
      clear sw sf
      have C1 := Lib.hid c1
      have C2 := Lib.hid c2
      clear c1 c2
      go_wp2_with fail
      refine (C1.out _).mono ?_
      rintro e w2 ⟨rfl, b2⟩
      go_wp2_with fail
      refine (C2.out _).mono ?_
      rintro e w3 ⟨rfl, b3⟩
      go_wp2_with fail
      go_roundw
      case rel => exact ⟨k + 1, by omega, by go_num, (hB.then b2).then b3⟩
      case measure => simp [intOf]; omega
    · go_wp2_with fail
      go_ret
      exact ⟨rfl, BW⟩

set_option maxRecDepth 100000 in
set_option maxHeartbeats 1000000 in
theorem isMor_no (B : Nat) (v : Value) (I : List (List UInt8)) (w : World) (h : OwnS w B v (I.map bt)) (t : Tot I) (g : ¬ Mor I) :
    Calls Tryd.prog 63 #[.agg #[v]] w fun e w' => e = .returned (.bool false) ∧ Below w.heap.size w w' := by
  by_cases hbad : I.length < 1 ∨ 5 < I.length
  · have hlm := t.1
    obtain ⟨p, cap, hv⟩ := ownS_value h
    rw [List.length_map] at hv
    subst hv
    clear h
    rcases hbad with hb | hb
    all_goals
      go_enter Tryd.func63, Tryd.ntmps63
      go_wp2
      go_ret
      exact ⟨rfl, Below.new _ _⟩
  have h1 : 1 ≤ I.length := by omega
  have h5 : I.length ≤ 5 := by omega
  clear hbad
  obtain ⟨p, cap, rfl, hg, hc, cell⟩ := h.rowM (by omega)
  have C := Lib.hid cell
  have G := Lib.hid g
  clear h cell g
  go_enter Tryd.func63, Tryd.ntmps63
  go_wp2_with fail
  obtain ⟨W1, hW1⟩ : ∃ W1 : World, W1 = w.alloc (.cells #[.slice (some ⟨p, 0, none⟩) I.length cap] 29) := ⟨_, rfl⟩
  have kr : W1.cell? ⟨w.heap.size, 0, none⟩ = some (.slice (some ⟨p, 0, none⟩) I.length cap) := by rw [hW1]; exact World.cell?_alloc_new _ _ _ _
  have B1 : Below w.heap.size w W1 := by rw [hW1]; exact Below.new _ _
  rw [← hW1]
  clear hW1
  go_loopw [18] (fun i wr => ∃ k : Nat, k ≤ I.length ∧ i = .int .i64 k ∧ Below W1.heap.size W1 wr ∧ MorTo I k) (fun i _ => I.length - (intOf i).toNat)
  case atStart => exact ⟨0, Nat.zero_le _, rfl, Below.refl _ _, MorTo.zero I⟩
  case round =>
    obtain ⟨k, hk, rfl, hB, hu⟩ := hrel
    have BW := B1.then hB
    have HU := Lib.hid hu
    clear hu
    have hp : k < I.length := Nat.lt_of_not_le fun hp => G.out (HU.out.whole hp h1 h5)
    have kc : wr.cell? ⟨p, k, none⟩ = some (.string (bt (I[k]'hp))) := by rw [(bcell BW).1 p k hg]; exact C.out k hp
    have hkc : k < cap := by omega
    have hzs : (bt (I[k]'hp)).size ≤ 1048576 := t.2 k hp
    have HS := Lib.hid (fun (h : okIm I.length (bt (I[k]'hp))) => HU.out.succ hp h)
    generalize bt (I[k]'hp) = z at kc hzs HS
    by_cases s12 : z.size ≤ 12
    · by_cases sw : IsW z
      · have c1 := fun W => isWord_yes z W sw
        have C1 := Lib.hid c1
        by_cases sf : Few I.length z
        · have c2 := fun W => hasFirst_yes z I.length W sw sf h5
          have C2 := Lib.hid c2
          have HO := Lib.hid (HS.out ⟨s12, sw, sf⟩)
          clear c1 c2 sw sf
          go_wp2_with fail
          refine (C1.out _).mono ?_
          rintro e w2 ⟨rfl, b2⟩
          go_wp2_with fail
          refine (C2.out _).mono ?_
          rintro e w3 ⟨rfl, b3⟩
          go_wp2_with fail
          go_roundw
          case rel => exact ⟨k + 1, by omega, by go_num, (hB.then b2).then b3, HO.out⟩
          case measure => simp [intOf]; omega
        · have c2 := fun W => hasFirst_no z I.length W sw sf h5
          have C2 := Lib.hid c2
          clear c1 c2 sw sf
          go_wp2_with fail
          refine (C1.out _).mono ?_
          rintro e w2 ⟨rfl, b2⟩
          go_wp2_with fail
          refine (C2.out _).mono ?_
          rintro e w3 ⟨rfl, b3⟩
          go_wp2_with fail
          go_ret
          exact ⟨rfl, (BW.then b2).then b3⟩
      · have c1 := fun W => isWord_not z W (by unfold maxLen; omega) sw
        have C1 := Lib.hid c1
        clear c1 sw
        go_wp2_with fail
        refine (C1.out _).mono ?_
        rintro e w2 ⟨rfl, b2⟩
        go_wp2_with fail
        go_ret
        exact ⟨rfl, BW.then b2⟩
    · go_wp2_with fail
      go_ret
      exact ⟨rfl, BW⟩

end Go.Proofs.YtfipbnognjepkaaDoor
