/- The longest words that avoid a pattern: the program. -/
import Derived.Test.YtfipbnognjepkaaGreatDoorAvoF
namespace Go.Proofs.YtfipbnognjepkaaGreatDoor
set_option linter.unusedVariables false
set_option linter.unusedSimpArgs false
open Go.RowKit

/-- The greatest number of letters, from n on, f numbers being left. -/
def lonA (P : List UInt8) (k : Nat) : Nat → Nat → Int × Int
  | 0, _ => (0, 4)
  | f + 1, n => if (fstA (avW P k (n + 1) [])).2 = true then lonA P k f (n + 1) else ((n : Int), 0)
theorem lonA_yes {P : List UInt8} {k f n : Nat} (h : (fstA (avW P k (n + 1) [])).2 = true) : lonA P k (f + 1) n = lonA P k f (n + 1) := by rw [lonA, if_pos h]
theorem lonA_no {P : List UInt8} {k f n : Nat} (h : (fstA (avW P k (n + 1) [])).2 = false) : lonA P k (f + 1) n = ((n : Int), 0) := by rw [lonA, if_neg (by rw [h]; decide)]
noncomputable def longAvR (p : ByteArray) (k : Int) : Int × Int := if IsP p then (if 1 ≤ k ∧ k ≤ 2 then lonA (bl p) k.toNat 11 0 else (0, 2)) else (0, 1)
theorem longAvR_bad {p : ByteArray} (k : Int) (h : ¬ IsP p) : longAvR p k = (0, 1) := if_neg h
theorem longAvR_out {p : ByteArray} {k : Int} (h : IsP p) (h2 : ¬ (1 ≤ k ∧ k ≤ 2)) : longAvR p k = (0, 2) := by unfold longAvR; rw [if_pos h, if_neg h2]
theorem longAvR_ok {p : ByteArray} {k : Nat} (h : IsP p) (h1 : 1 ≤ k) (h2 : k ≤ 2) : longAvR p (k : Int) = lonA (bl p) k 11 0 := by unfold longAvR; rw [if_pos h, if_pos (by omega)]; rfl

set_option maxRecDepth 100000 in
set_option maxHeartbeats 2000000 in
theorem LongestAvoiding1_any (b1 b2 : Nat) (p : ByteArray) (k : Int) (w : World) (c1 : Boxed w b1 9 (.string p)) (c2 : Boxed w b2 2 (.int .i64 k)) (sp : p.size ≤ maxLen) :
    Calls Tryz.prog 63 #[.pointer (some ⟨b1, 0, none⟩), .pointer (some ⟨b2, 0, none⟩)] w fun e w' => EndN (longAvR p k) e ∧ Below w.heap.size w w' := by
  have k1 := c1.cell
  have k2 := c2.cell
  have l1 := c1.lt
  have l2 := c2.lt
  by_cases hp : IsP p
  · have HP := Lib.hid hp
    by_cases h : 1 ≤ k ∧ k ≤ 2
    · obtain ⟨a, rfl⟩ := Int.eq_ofNat_of_zero_le (show 0 ≤ k by omega)
      rw [longAvR_ok hp (by omega) (by omega)]
      have CC := Lib.hid (fun (b : Nat) (hb : b ≤ 12) W => firstAvoiding_any p a b W hp hb (by omega) (by omega))
      obtain ⟨R, hR⟩ : ∃ R, lonA (bl p) a 11 0 = R := ⟨_, rfl⟩
      rw [hR]
      have HR := Lib.hid hR
      have g1 : (1 : Int) ≤ (a : Int) := by omega
      have g2 : (a : Int) ≤ 2 := by omega
      clear h hp sp hR
      go_enter Tryz.func63, Tryz.ntmps63
      go_wp2_with (first | (go_at_call 21; (with_reducible refine (isPattern_yes p HP.out _).mono ?_); rintro e w1 ⟨rfl, a1⟩; have d1 := boxed_past c1 a1 l1; have d2 := boxed_past c2 a1 l2; have k4 := d1.cell; have k5 := d2.cell) | (go_at_call 55; first | ((with_reducible refine (refuse_yes _ _).mono ?_); rintro e w3 ⟨rfl, rfl⟩) | ((with_reducible refine (refuse_no _ _).mono ?_); rintro e w3 ⟨rfl, rfl⟩)))
      go_loopg [3] 11 (fun g s3 wr => ∃ c : Nat, c + g = 11 ∧ s3 = .int .i64 (c : Int) ∧ Below w.heap.size w wr ∧ Hid (lonA (bl p) a g c = R))
      case atStart => exact ⟨0, rfl, rfl, a1, HR⟩
      case round =>
        clear k1 k2 k4 k5 d1 d2 a1
        obtain ⟨c, hc, rfl, hB, HL⟩ := hrel
        clear HR
        have d1 := boxed_past c1 hB l1
        have d2 := boxed_past c2 hB l2
        have k4 := d1.cell
        have k5 := d2.cell
        by_cases hcp : c < 11
        · obtain ⟨g, rfl⟩ : ∃ g, gk = g + 1 := ⟨gk - 1, by omega⟩
          have CF := CC.out (c + 1) (by omega)
          rw [show ((c + 1 : Nat) : Int) = (c : Int) + 1 by omega] at CF
          have CFF := Lib.hid CF
          clear CF
          have hlo : (c : Int) ≤ 10 := by omega
          cases he : (fstA (avW (bl p) a (c + 1) [])).2 with
          | true =>
            have HL2 := Lib.hid ((lonA_yes he).symm.trans HL.out)
            rw [he] at CFF
            clear he
            generalize (fstA (avW (bl p) a (c + 1) [])).1 = s at *
            go_wp2_with (go_at_call 56; refine (CFF.out _).mono ?_; rintro e w2 ⟨rfl, b2⟩)
            go_roundg g
            case measure => omega
            case rel => exact ⟨c + 1, by omega, by go_num, hB.then b2, HL2⟩
          | false =>
            have HL2 : R = ((c : Int), 0) := (HL.out.symm.trans (lonA_no he))
            rw [he] at CFF
            subst HL2
            clear he HL
            generalize (fstA (avW (bl p) a (c + 1) [])).1 = s at *
            go_wp2_with (go_at_call 56; refine (CFF.out _).mono ?_; rintro e w2 ⟨rfl, b2⟩)
            go_ret
            exact ⟨.inl ⟨rfl, rfl⟩, hB.then b2⟩
        · obtain rfl : gk = 0 := by omega
          have HL2 : R = (0, 4) := HL.out.symm
          subst HL2
          clear HL
          have hlo : ¬ (c : Int) ≤ 10 := by omega
          go_wp2_with fail
          exact ⟨rfl, .inr ⟨rfl, rfl⟩, hB⟩
    · rw [longAvR_out hp h]
      clear hp sp
      rcases (show ¬ 1 ≤ k ∨ (1 ≤ k ∧ ¬ k ≤ 2) by omega) with g1 | ⟨g1, g4⟩
      all_goals
        clear h
        try have g5 := decide_eq_false g4
        go_enter Tryz.func63, Tryz.ntmps63
        go_wp2_with (first | (go_at_call 21; (with_reducible refine (isPattern_yes p HP.out _).mono ?_); rintro e w1 ⟨rfl, a1⟩; have d1 := boxed_past c1 a1 l1; have d2 := boxed_past c2 a1 l2; have k4 := d1.cell; have k5 := d2.cell) | (go_at_call 55; first | ((with_reducible refine (refuse_yes _ _).mono ?_); rintro e w3 ⟨rfl, rfl⟩) | ((with_reducible refine (refuse_no _ _).mono ?_); rintro e w3 ⟨rfl, rfl⟩)))
        exact ⟨rfl, .inr ⟨rfl, rfl⟩, a1⟩
  · rw [longAvR_bad k hp]
    have HP := Lib.hid hp
    have SP := Lib.hid sp
    clear hp sp
    go_enter Tryz.func63, Tryz.ntmps63
    go_wp2_with (first | (go_at_call 21; (with_reducible refine (isPattern_no p SP.out HP.out _).mono ?_); rintro e w1 ⟨rfl, a1⟩) | (go_at_call 55; first | ((with_reducible refine (refuse_yes _ _).mono ?_); rintro e w3 ⟨rfl, rfl⟩) | ((with_reducible refine (refuse_no _ _).mono ?_); rintro e w3 ⟨rfl, rfl⟩)))
    exact ⟨rfl, .inr ⟨rfl, rfl⟩, a1⟩

set_option maxRecDepth 100000 in
set_option maxHeartbeats 1000000 in
theorem impl_LongestAvoiding (p : ByteArray) (k : Int) (w : World) (sp : p.size ≤ maxLen) :
    Calls Tryz.prog 13 #[.string p, .int .i64 k] w fun e w' => e = .returned (.tuple #[.int .i64 (longAvR p k).1, .int .i64 (longAvR p k).2]) ∧ Below w.heap.size w w' := by
  have c1 : Boxed ((w.alloc (.cells #[.string p] 9)).alloc (.cells #[.int .i64 k] 2)) w.heap.size 9 (.string p) := (Boxed.new w _ _).alloc _
  have c2 : Boxed ((w.alloc (.cells #[.string p] 9)).alloc (.cells #[.int .i64 k] 2)) (w.heap.size + 1) 2 (.int .i64 k) := by
    have h := Boxed.new (w.alloc (.cells #[.string p] 9)) 2 (.int .i64 k)
    rwa [World.size_alloc] at h
  have C1 := Lib.hid (c1.alloc (.cells #[.int .i64 0] 2))
  have C2 := Lib.hid (c2.alloc (.cells #[.int .i64 0] 2))
  clear c1 c2
  go_enter Tryz.func13, Tryz.ntmps13
  go_wp2_with (go_at_call 59; refine (door_num 63 _ _ (longAvR p k) (enters_of Tryz.func63 (by kernel_rfl) rfl) (LongestAvoiding1_any w.heap.size (w.heap.size + 1) p k _ C1.out C2.out sp)).mono ?_; rintro e w1 ⟨rfl, b1⟩)
  go_ret2
  exact ⟨rfl, ((Below.new w _).alloc (by simp) _).then b1⟩

end Go.Proofs.YtfipbnognjepkaaGreatDoor
