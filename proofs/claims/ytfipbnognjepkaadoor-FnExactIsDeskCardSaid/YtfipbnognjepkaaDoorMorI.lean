/- Morphisms: the test of the model and of the program. -/
import Derived.Test.YtfipbnognjepkaaDoorMorS
import Derived.Test.YtfipbnognjepkaaDoorToS
namespace Go.Proofs.YtfipbnognjepkaaDoor
set_option linter.unusedVariables false
set_option linter.unusedSimpArgs false
open Go.RowKit

theorem OwnS.nilM {w : World} {B : Nat} {v : Value} {I : List (List UInt8)} (h : OwnS w B v (I.map bt)) (hn : I.length = 0) : ∃ a c, v = .slice a 0 c := by
  have : I = [] := List.eq_nil_of_length_eq_zero hn
  subst this
  exact OwnS.empty h

set_option maxRecDepth 100000 in
set_option maxHeartbeats 1000000 in
theorem l06Is_yes (B : Nat) (v : Value) (I : List (List UInt8)) (w : World) (h : OwnS w B v (I.map bt)) (g : Mor I) :
    Calls Tryd.prog 59 #[.agg #[v]] w fun e w' => e = .returned (.bool true) ∧ Below w.heap.size w w' := by
  have h1 := g.len1
  have h5 := g.len5
  obtain ⟨p, cap, rfl, hg, hc, cell⟩ := h.rowM (by omega)
  have C := Lib.hid cell
  have G := Lib.hid g
  clear h cell g
  go_enter Tryd.func59, Tryd.ntmps59
  go_wp2_with fail
  obtain ⟨W1, hW1⟩ : ∃ W1 : World, W1 = w.alloc (.cells #[.slice (some ⟨p, 0, none⟩) I.length cap] 29) := ⟨_, rfl⟩
  have kr : W1.cell? ⟨w.heap.size, 0, none⟩ = some (.slice (some ⟨p, 0, none⟩) I.length cap) := by rw [hW1]; exact World.cell?_alloc_new _ _ _ _
  have B1 : Below w.heap.size w W1 := by rw [hW1]; exact Below.new _ _
  rw [← hW1]
  clear hW1
  go_loopw [4] (fun i wr => ∃ k : Nat, k ≤ I.length ∧ i = .int .i64 k ∧ wr = W1) (fun i _ => I.length - (intOf i).toNat)
  case atStart => exact ⟨0, Nat.zero_le _, rfl, rfl⟩
  case round =>
    obtain ⟨k, hk, rfl, rfl⟩ := hrel
    by_cases hp : k < I.length
    · have kc : wr.cell? ⟨p, k, none⟩ = some (.string (bt (I[k]'hp))) := by rw [(bcell B1).1 p k hg]; exact C.out k hp
      obtain ⟨s12, sw, sf⟩ := G.out.im k hp
      generalize bt (I[k]'hp) = z at kc s12 sw sf
      have c1 := fun W => l01Is_qyes z W sw
      have c2 := fun W => l06Few_yes z I.length W sw sf h5
      have hkc : k < cap := by omega
      clear sw sf
      have C1 := Lib.hid c1
      have C2 := Lib.hid c2
      clear c1 c2
      go_wp2_with fail
      refine (C1.out _).mono ?_
      rintro e w2 ⟨rfl, rfl⟩
      go_wp2_with fail
      refine (C2.out _).mono ?_
      rintro e w2 ⟨rfl, rfl⟩
      go_wp2_with fail
      go_roundw
      case rel => exact ⟨k + 1, by omega, by go_num, by first | rfl | trivial⟩
      case measure => simp [intOf]; omega
    · go_wp2_with fail
      go_ret
      exact ⟨rfl, B1⟩

set_option maxRecDepth 100000 in
set_option maxHeartbeats 1000000 in
theorem l06Is_no (B : Nat) (v : Value) (I : List (List UInt8)) (w : World) (h : OwnS w B v (I.map bt)) (t : Tot I) (g : ¬ Mor I) :
    Calls Tryd.prog 59 #[.agg #[v]] w fun e w' => e = .returned (.bool false) ∧ Below w.heap.size w w' := by
  by_cases hbad : I.length < 1 ∨ 5 < I.length
  · have hlm := t.1
    obtain ⟨p, cap, hv⟩ := ownS_value h
    rw [List.length_map] at hv
    subst hv
    clear h
    rcases hbad with hb | hb
    all_goals
      go_enter Tryd.func59, Tryd.ntmps59
      go_wp2
      go_ret
      exact ⟨rfl, Below.new _ _⟩
  have h1 : 1 ≤ I.length := by omega
  have h5 : I.length ≤ 5 := by omega
  clear hbad
  obtain ⟨p, cap, rfl, hg, hc, cell⟩ := h.rowM (by omega)
  have C := Lib.hid cell
  have G := Lib.hid g
  clear h cell g
  go_enter Tryd.func59, Tryd.ntmps59
  go_wp2_with fail
  obtain ⟨W1, hW1⟩ : ∃ W1 : World, W1 = w.alloc (.cells #[.slice (some ⟨p, 0, none⟩) I.length cap] 29) := ⟨_, rfl⟩
  have kr : W1.cell? ⟨w.heap.size, 0, none⟩ = some (.slice (some ⟨p, 0, none⟩) I.length cap) := by rw [hW1]; exact World.cell?_alloc_new _ _ _ _
  have B1 : Below w.heap.size w W1 := by rw [hW1]; exact Below.new _ _
  rw [← hW1]
  clear hW1
  go_loopw [4] (fun i wr => ∃ k : Nat, k ≤ I.length ∧ i = .int .i64 k ∧ wr = W1 ∧ MorTo I k) (fun i _ => I.length - (intOf i).toNat)
  case atStart => exact ⟨0, Nat.zero_le _, rfl, rfl, MorTo.zero I⟩
  case round =>
    obtain ⟨k, hk, rfl, rfl, hu⟩ := hrel
    have HU := Lib.hid hu
    clear hu
    have hp : k < I.length := Nat.lt_of_not_le fun hp => G.out (HU.out.whole hp h1 h5)
    have kc : wr.cell? ⟨p, k, none⟩ = some (.string (bt (I[k]'hp))) := by rw [(bcell B1).1 p k hg]; exact C.out k hp
    have hkc : k < cap := by omega
    have hzs : (bt (I[k]'hp)).size ≤ 1048576 := t.2 k hp
    have HS := Lib.hid (fun (h : okIm I.length (bt (I[k]'hp))) => HU.out.succ hp h)
    generalize bt (I[k]'hp) = z at kc hzs HS
    by_cases s12 : z.size ≤ 12
    · by_cases sw : IsW z
      · have c1 := fun W => l01Is_qyes z W sw
        have C1 := Lib.hid c1
        by_cases sf : Few I.length z
        · have c2 := fun W => l06Few_yes z I.length W sw sf h5
          have C2 := Lib.hid c2
          have HO := Lib.hid (HS.out ⟨s12, sw, sf⟩)
          clear c1 c2 sw sf
          go_wp2_with fail
          refine (C1.out _).mono ?_
          rintro e w2 ⟨rfl, rfl⟩
          go_wp2_with fail
          refine (C2.out _).mono ?_
          rintro e w2 ⟨rfl, rfl⟩
          go_wp2_with fail
          go_roundw
          case rel => exact ⟨k + 1, by omega, by go_num, by first | rfl | trivial, HO.out⟩
          case measure => simp [intOf]; omega
        · have c2 := fun W => l06Few_no z I.length W sw sf h5
          have C2 := Lib.hid c2
          clear c1 c2 sw sf
          go_wp2_with fail
          refine (C1.out _).mono ?_
          rintro e w2 ⟨rfl, rfl⟩
          go_wp2_with fail
          refine (C2.out _).mono ?_
          rintro e w2 ⟨rfl, rfl⟩
          go_wp2_with fail
          go_ret
          exact ⟨rfl, B1⟩
      · have c1 := fun W => l01Is_qno z W (by unfold maxLen; omega) sw
        have C1 := Lib.hid c1
        clear c1 sw
        go_wp2_with fail
        refine (C1.out _).mono ?_
        rintro e w2 ⟨rfl, rfl⟩
        go_wp2_with fail
        go_ret
        exact ⟨rfl, B1⟩
    · go_wp2_with fail
      go_ret
      exact ⟨rfl, B1⟩

end Go.Proofs.YtfipbnognjepkaaDoor
