/- For every text and number: the program's words backwards, their periods, powers and closures are as the model tells, and hang together as the top promise says. No condition. -/
import Derived.Test.YthjbdcoklgnnlabTopPlain
import Derived.Test.YthjbdcoklgnnlabHasInt
import Derived.Test.YthjbdcoklgnnlabLike
import Derived.Test.YthjbdcoklgnnlabPower
import Derived.Test.YthjbdcoklgnnlabReverse
import Derived.Test.YthjbdcoklgnnlabPeriods
import Derived.Test.YthjbdcoklgnnlabRootL
import Derived.Test.YthjbdcoklgnnlabRows
import Derived.WalkKit
import Derived.ProofKit
import Derived.OpenShut
import Derived.ShutString
import Derived.ChangeOld
import Derived.Below
namespace Go.Proofs.Ythjbdcoklgnnlab.fnPromiseOfAll
open Go.ChangeShapes Go.WideShapes Go.ChangeAt Go.RowKit
open Go.ChangeMaps (open_string shut_string)
set_option linter.unusedVariables false
set_option linter.unusedSimpArgs false

set_option maxRecDepth 100000 in
set_option maxHeartbeats 4000000 in
theorem walk (a0 : ByteArray) (a1 : Int) (w : World) (w0 : a0.size ≤ maxLen) (w1 : (Lit.int .i64 a1).wf = true) :
    Calls Try.prog 9 #[.string a0, .int .i64 a1] w fun e w' => e = .returned (.bool true) ∧ Below w.heap.size w w' := by
  have m0 := w0
  unfold maxLen at m0
  by_cases hb0 : 100000 < a0.size
  · go_enter Try.func9, Try.ntmps9
    go_wp2
    go_ret
    exact ⟨rfl, Below.refl _ _⟩
  have i1 := fun w => impl_ReverseOf a0 w w0
  have s1 := fun w => spec_ReverseOf a0 w w0
  have i2 := fun w => impl_PeriodsOf a0 w w0
  have s2 := fun w => spec_PeriodsOf a0 w w0
  by_cases h : IsW a0
  case neg =>
    rw [revR_bad h] at i1 s1
    rw [periodsR_bad h] at i2 s2
    have I1 := Lib.hid i1
    have S1 := Lib.hid s1
    have I2 := Lib.hid i2
    have S2 := Lib.hid s2
    clear i1 s1 i2 s2 h
    go_enter Try.func9, Try.ntmps9
    go_wp2_with fail
    refine (I1.out _).mono ?_
    rintro e w1 ⟨rfl, b1⟩
    have B := b1
    go_wp2_with fail
    refine (S1.out _).mono ?_
    rintro e w2 ⟨rfl, b2⟩
    have B := B.then b2
    go_wp2_with fail
    refine (I2.out _).mono ?_
    rintro e w3 ⟨v1, rfl, o1, b3⟩
    have B := B.then b3
    go_wp2_with fail
    refine (S2.out _).mono ?_
    rintro e w4 ⟨v2, rfl, o2, b4⟩
    have B := B.then b4
    have o1 := o1.below b4
    go_wp2_with fail
    refine (likeInts_yes _ _ _ _ _ _ o1 o2).mono ?_
    rintro e w5 ⟨rfl, b5⟩
    have B := B.then b5
    have o1 := o1.below b5
    clear b1 b2 b3 b4 b5 o2
    go_wp2_with fail
    go_ret
    exact ⟨rfl, B⟩
  by_cases h0 : a0.size = 0
  · have h0i : (a0.size : Int) = 0 := by omega
    rw [revR_ok h] at i1 s1
    rw [periodsR_ok h] at i2 s2
    generalize rev a0 = r at *
    generalize persR (bl a0) a0.size = L at *
    have I1 := Lib.hid i1
    have S1 := Lib.hid s1
    have I2 := Lib.hid i2
    have S2 := Lib.hid s2
    clear i1 s1 i2 s2 h h0 m0 w0
    go_enter Try.func9, Try.ntmps9
    go_wp2_with fail
    refine (I1.out _).mono ?_
    rintro e w1 ⟨rfl, b1⟩
    have B := b1
    go_wp2_with fail
    refine (S1.out _).mono ?_
    rintro e w2 ⟨rfl, b2⟩
    have B := B.then b2
    go_wp2_with fail
    refine (I2.out _).mono ?_
    rintro e w3 ⟨v1, rfl, o1, b3⟩
    have B := B.then b3
    go_wp2_with fail
    refine (S2.out _).mono ?_
    rintro e w4 ⟨v2, rfl, o2, b4⟩
    have B := B.then b4
    have o1 := o1.below b4
    go_wp2_with fail
    refine (likeInts_yes _ _ _ _ _ _ o1 o2).mono ?_
    rintro e w5 ⟨rfl, b5⟩
    have B := B.then b5
    have o1 := o1.below b5
    clear b1 b2 b3 b4 b5 o2
    go_wp2_with fail
    go_ret
    exact ⟨rfl, B⟩
  have h60 := h.size
  have h0i : ¬ (a0.size : Int) = 0 := by omega
  have h0b : ((a0.size : Int) == 0) = false := by rw [beq_eq_false_iff_ne]; omega
  have hT := topW h (by omega)
  have i3 := fun w => impl_PeriodsOf (rev a0) w (by have := (rev_isW h).size; unfold maxLen; omega)
  have i4 := fun w => impl_PowerOf a0 a1 w w0 w1
  have s4 := fun w => spec_PowerOf a0 a1 w w0 w1
  have i7 := fun w => impl_ClosureOf a0 w w0
  have s7 := fun w => spec_ClosureOf a0 w w0
  have hC : (cloR a0).2 = 3 ∨ ((cloR a0).2 = 0 ∧ a0.size ≤ (cloR a0).1.size ∧ (cloR a0).1.extract 0 a0.size = a0 ∧ (cloR a0).1.size ≤ 60) := by
    rcases topC_code h with e | e
    · have := topC h e; exact .inr ⟨e, this.2.1, this.2.2.1, this.2.2.2⟩
    · exact .inl e
  have i8 : (cloR a0).2 = 0 → ∀ w, Calls Try.prog 66 #[.string (cloR a0).1] w fun e w' => e = .returned (.tuple #[.bool true, .int .i64 0]) ∧ Below w.heap.size w w' := fun e w => by
    have t := topC h e
    have := impl_IsPalindrome (cloR a0).1 w (by have := t.2.2.2; unfold maxLen; omega)
    rwa [t.1] at this
  have hP : ((powR a0 a1).2 ≠ 0 ∨ a1 ≤ 0) ∨ (∃ k : Nat, 0 < k ∧ a1 = k ∧ a0.size * k ≤ 60 ∧ powR a0 a1 = (pow a0 k, 0)) := by
    by_cases hn : 0 < a1
    · by_cases hc : (powR a0 a1).2 = 0
      · obtain ⟨k, rfl⟩ : ∃ k : Nat, a1 = k := ⟨a1.toNat, by omega⟩
        by_cases hk : k ≤ 1000
        · by_cases hl : 60 < a0.size * k
          · rw [powR_long h hk hl] at hc; cases hc
          · exact .inr ⟨k, by omega, rfl, by omega, powR_ok h hk (by omega)⟩
        · rw [powR_out h (by omega)] at hc; cases hc
      · exact .inl (.inl hc)
    · exact .inl (.inr (by omega))
  rw [revR_ok h] at i1 s1
  rw [hT.two] at i3
  have hT2 := hT.pos
  have hT3 := hT.last
  have hcode : (periodsR a0).2 = 0 := by rw [periodsR_ok h]
  rw [hcode] at i2 s2 i3
  have hLl := periodsR_len a0
  clear hT hcode
  generalize rev a0 = r at *
  generalize (periodsR a0).1 = L at *
  generalize (cloR a0).1 = c at *
  generalize (cloR a0).2 = cc at *
  have I1 := Lib.hid i1
  have S1 := Lib.hid s1
  have I2 := Lib.hid i2
  have S2 := Lib.hid s2
  have I3 := Lib.hid i3
  have I7 := Lib.hid i7
  have S7 := Lib.hid s7
  have I8 := Lib.hid i8
  have HC := Lib.hid hC
  have HT3 := Lib.hid hT3
  have H := Lib.hid h
  clear i1 s1 i2 s2 i3 i7 s7 i8 hC hT3 h w0 m0
  rcases hP with hP | ⟨k, hk0, rfl, hk60, hpk⟩
  · have hPd : Hid ((((powR a0 a1).2 == 0) && decide (0 < a1)) = false) := Lib.hid (by
      rw [Bool.and_eq_false_iff]
      rcases hP with e | e
      · left; rw [beq_eq_false_iff_ne]; exact e
      · right; exact decide_eq_false (by omega))
    have HP := Lib.hid hP
    generalize (powR a0 a1).1 = P at *
    generalize (powR a0 a1).2 = cp at *
    have I4 := Lib.hid i4
    have S4 := Lib.hid s4
    clear i4 s4 hP
    by_cases hcp : cp = 0
    · have hal : ¬ 0 < a1 := by rcases HP.out with e | e; exact absurd hcp e; omega
      subst hcp
      clear HP hPd
      go_enter Try.func9, Try.ntmps9
      go_wp2_with fail
      refine (I1.out _).mono ?_
      rintro e w1 ⟨rfl, b1⟩
      have B := b1
      go_wp2_with fail
      refine (S1.out _).mono ?_
      rintro e w2 ⟨rfl, b2⟩
      have B := B.then b2
      go_wp2_with fail
      refine (I2.out _).mono ?_
      rintro e w3 ⟨v1, rfl, o1, b3⟩
      have B := B.then b3
      go_wp2_with fail
      refine (S2.out _).mono ?_
      rintro e w4 ⟨v2, rfl, o2, b4⟩
      have B := B.then b4
      have o1 := o1.below b4
      go_wp2_with fail
      refine (likeInts_yes _ _ _ _ _ _ o1 o2).mono ?_
      rintro e w5 ⟨rfl, b5⟩
      have B := B.then b5
      have o1 := o1.below b5
      clear b1 b2 b3 b4 b5 o2
      go_wp2_with fail
      refine (I3.out _).mono ?_
      rintro e w6 ⟨v3, rfl, o3, b6⟩
      have B := B.then b6
      have o1 := o1.below b6
      go_wp2_with fail
      refine (likeInts_yes _ _ _ _ _ _ o1 o3).mono ?_
      rintro e w7 ⟨rfl, b7⟩
      have B := B.then b7
      have o1 := o1.below b7
      clear b6 b7 o3
      obtain ⟨g1, q10, rfl, _, hg1, hq1, hm, cell1, _⟩ := o1.row hT2
      have hLj : L.length - 1 < L.length := by omega
      have cell10 := cell1 (L.length - 1) hLj
      have hlast := HT3.out hLj
      have hLne : ((L.length : Int) == 0) = false := by rw [beq_eq_false_iff_ne]; omega
      rw [hlast] at cell10
      have hqj : L.length - 1 < q10 := by omega
      obtain ⟨jj, hjj⟩ : ∃ j, L.length - 1 = j := ⟨_, rfl⟩
      rw [hjj] at cell10 hqj hLj
      have hji : (L.length : Int) - 1 = (jj : Int) := by omega
      clear cell1 hlast o1
      go_wp2_with fail
      refine (I4.out _).mono ?_
      rintro e w8 ⟨rfl, b8⟩
      have B := B.then b8
      go_wp2_with fail
      refine (S4.out _).mono ?_
      rintro e w9 ⟨rfl, b9⟩
      have B := B.then b9
      clear b8 b9
      go_wp2_with fail
      refine (I7.out _).mono ?_
      rintro e w20 ⟨rfl, b20⟩
      have B := B.then b20
      go_wp2_with fail
      refine (S7.out _).mono ?_
      rintro e w21 ⟨rfl, b21⟩
      have B := B.then b21
      rcases HC.out with rfl | ⟨rfl, e1, e2, e3⟩
      · go_wp2_with fail
        go_ret
        exact ⟨rfl, B⟩
      · go_wp2_with fail
        refine (I8.out trivial _).mono ?_
        rintro e w22 ⟨rfl, b22⟩
        have B := B.then b22
        have hsl := fun W => slice_to c (a0.size : Int) a0.size rfl e1 W
        have hge : ¬ (c.size : Int) < (a0.size : Int) := by omega
        rw [e2] at hsl
        go_wp2_with fail
        go_ret
        exact ⟨rfl, B⟩
    · clear HP hPd
      go_enter Try.func9, Try.ntmps9
      go_wp2_with fail
      refine (I1.out _).mono ?_
      rintro e w1 ⟨rfl, b1⟩
      have B := b1
      go_wp2_with fail
      refine (S1.out _).mono ?_
      rintro e w2 ⟨rfl, b2⟩
      have B := B.then b2
      go_wp2_with fail
      refine (I2.out _).mono ?_
      rintro e w3 ⟨v1, rfl, o1, b3⟩
      have B := B.then b3
      go_wp2_with fail
      refine (S2.out _).mono ?_
      rintro e w4 ⟨v2, rfl, o2, b4⟩
      have B := B.then b4
      have o1 := o1.below b4
      go_wp2_with fail
      refine (likeInts_yes _ _ _ _ _ _ o1 o2).mono ?_
      rintro e w5 ⟨rfl, b5⟩
      have B := B.then b5
      have o1 := o1.below b5
      clear b1 b2 b3 b4 b5 o2
      go_wp2_with fail
      refine (I3.out _).mono ?_
      rintro e w6 ⟨v3, rfl, o3, b6⟩
      have B := B.then b6
      have o1 := o1.below b6
      go_wp2_with fail
      refine (likeInts_yes _ _ _ _ _ _ o1 o3).mono ?_
      rintro e w7 ⟨rfl, b7⟩
      have B := B.then b7
      have o1 := o1.below b7
      clear b6 b7 o3
      obtain ⟨g1, q10, rfl, _, hg1, hq1, hm, cell1, _⟩ := o1.row hT2
      have hLj : L.length - 1 < L.length := by omega
      have cell10 := cell1 (L.length - 1) hLj
      have hlast := HT3.out hLj
      have hLne : ((L.length : Int) == 0) = false := by rw [beq_eq_false_iff_ne]; omega
      rw [hlast] at cell10
      have hqj : L.length - 1 < q10 := by omega
      obtain ⟨jj, hjj⟩ : ∃ j, L.length - 1 = j := ⟨_, rfl⟩
      rw [hjj] at cell10 hqj hLj
      have hji : (L.length : Int) - 1 = (jj : Int) := by omega
      clear cell1 hlast o1
      go_wp2_with fail
      refine (I4.out _).mono ?_
      rintro e w8 ⟨rfl, b8⟩
      have B := B.then b8
      go_wp2_with fail
      refine (S4.out _).mono ?_
      rintro e w9 ⟨rfl, b9⟩
      have B := B.then b9
      clear b8 b9
      go_wp2_with fail
      refine (I7.out _).mono ?_
      rintro e w20 ⟨rfl, b20⟩
      have B := B.then b20
      go_wp2_with fail
      refine (S7.out _).mono ?_
      rintro e w21 ⟨rfl, b21⟩
      have B := B.then b21
      rcases HC.out with rfl | ⟨rfl, e1, e2, e3⟩
      · go_wp2_with fail
        go_ret
        exact ⟨rfl, B⟩
      · go_wp2_with fail
        refine (I8.out trivial _).mono ?_
        rintro e w22 ⟨rfl, b22⟩
        have B := B.then b22
        have hsl := fun W => slice_to c (a0.size : Int) a0.size rfl e1 W
        have hge : ¬ (c.size : Int) < (a0.size : Int) := by omega
        rw [e2] at hsl
        go_wp2_with fail
        go_ret
        exact ⟨rfl, B⟩
  · obtain ⟨q1, q2, q3, cN, q4, q5⟩ := topP H.out (by omega) hk0 hk60
    have hsz : (pow a0 k).size ≤ 60 := by rw [pow_size]; exact hk60
    rw [hpk] at i4 s4
    have i5 := fun w => impl_PeriodsOf (pow a0 k) w (by unfold maxLen; omega)
    have i6 := fun w => impl_RootOf (pow a0 k) w (by unfold maxLen; omega)
    rw [q2] at i5
    rw [q3, q4] at i6
    have hrz : (rootR (pow a0 k)).1.size ≤ 60 := by
      rcases Nat.eq_zero_or_pos cN with e | e
      · subst e; omega
      · have := Nat.le_mul_of_pos_right (rootR (pow a0 k)).1.size e; omega
    generalize pow a0 k = P at *
    generalize (periodsR P).1 = M at *
    generalize (rootR P).1 = rt at *
    have hk1 : k ≤ 60 := by have := Nat.le_mul_of_pos_left k (show 0 < a0.size by omega); omega
    have e10 : (rt.size : Int) * ((cN * k : Nat) : Int) = (k : Int) * (a0.size : Int) := by
      rw [← Int.natCast_mul, ← Int.natCast_mul, ← q5, ← Nat.mul_assoc, Nat.mul_comm k]
    have e11 : 0 ≤ (k : Int) * (a0.size : Int) := Int.mul_nonneg (by omega) (by omega)
    have e12 : (k : Int) * (a0.size : Int) ≤ 60 := by rw [← Int.natCast_mul, Nat.mul_comm]; omega
    have e13 : Int.tmod ((cN * k : Nat) : Int) (k : Int) = 0 := by
      rw [Int.natCast_mul]; exact Int.mul_tmod_left _ _
    have e14 : ((cN * k : Nat) : Int) ≤ 60 := by
      have : cN * k ≤ 60 := by
        by_cases hr0 : rt.size = 0
        · rw [hr0] at q5; omega
        · have : cN ≤ rt.size * cN := Nat.le_mul_of_pos_left cN (by omega)
          have := Nat.mul_le_mul_right k this
          rw [q5] at this; omega
      omega
    have e15 : 0 ≤ ((cN * k : Nat) : Int) := by omega
    have e16 : ¬ (k : Int) = 0 := by omega
    have e17 : (0 : Int) < (k : Int) := by omega
    generalize ((cN * k : Nat) : Int) = kk at *
    have I4 := Lib.hid i4
    have S4 := Lib.hid s4
    have I5 := Lib.hid i5
    have I6 := Lib.hid i6
    clear i4 s4 i5 i6 hpk q2 q3 q4 q5
    go_enter Try.func9, Try.ntmps9
    go_wp2_with fail
    refine (I1.out _).mono ?_
    rintro e w1 ⟨rfl, b1⟩
    have B := b1
    go_wp2_with fail
    refine (S1.out _).mono ?_
    rintro e w2 ⟨rfl, b2⟩
    have B := B.then b2
    go_wp2_with fail
    refine (I2.out _).mono ?_
    rintro e w3 ⟨v1, rfl, o1, b3⟩
    have B := B.then b3
    go_wp2_with fail
    refine (S2.out _).mono ?_
    rintro e w4 ⟨v2, rfl, o2, b4⟩
    have B := B.then b4
    have o1 := o1.below b4
    go_wp2_with fail
    refine (likeInts_yes _ _ _ _ _ _ o1 o2).mono ?_
    rintro e w5 ⟨rfl, b5⟩
    have B := B.then b5
    have o1 := o1.below b5
    clear b1 b2 b3 b4 b5 o2
    go_wp2_with fail
    refine (I3.out _).mono ?_
    rintro e w6 ⟨v3, rfl, o3, b6⟩
    have B := B.then b6
    have o1 := o1.below b6
    go_wp2_with fail
    refine (likeInts_yes _ _ _ _ _ _ o1 o3).mono ?_
    rintro e w7 ⟨rfl, b7⟩
    have B := B.then b7
    have o1 := o1.below b7
    clear b6 b7 o3
    obtain ⟨g1, q10, rfl, _, hg1, hq1, hm, cell1, _⟩ := o1.row hT2
    have hLj : L.length - 1 < L.length := by omega
    have cell10 := cell1 (L.length - 1) hLj
    have hlast := HT3.out hLj
    have hLne : ((L.length : Int) == 0) = false := by rw [beq_eq_false_iff_ne]; omega
    rw [hlast] at cell10
    have hqj : L.length - 1 < q10 := by omega
    obtain ⟨jj, hjj⟩ : ∃ j, L.length - 1 = j := ⟨_, rfl⟩
    rw [hjj] at cell10 hqj hLj
    have hji : (L.length : Int) - 1 = (jj : Int) := by omega
    clear cell1 hlast o1
    go_wp2_with fail
    refine (I4.out _).mono ?_
    rintro e w8 ⟨rfl, b8⟩
    have B := B.then b8
    go_wp2_with fail
    refine (S4.out _).mono ?_
    rintro e w9 ⟨rfl, b9⟩
    have B := B.then b9
    clear b8 b9
    go_wp2_with fail
    refine (I5.out _).mono ?_
    rintro e w13 ⟨v5, rfl, o5, b13⟩
    have B := B.then b13
    go_wp2_with fail
    refine (I6.out _).mono ?_
    rintro e w14 ⟨rfl, b14⟩
    have B := B.then b14
    have o5 := o5.below b14
    go_wp2_with fail
    refine (hasInt_yes _ _ M _ _ o5 q1).mono ?_
    rintro e w15 ⟨rfl, b15⟩
    have B := B.then b15
    clear o5
    go_wp2_with fail
    refine (I7.out _).mono ?_
    rintro e w20 ⟨rfl, b20⟩
    have B := B.then b20
    go_wp2_with fail
    refine (S7.out _).mono ?_
    rintro e w21 ⟨rfl, b21⟩
    have B := B.then b21
    rcases HC.out with rfl | ⟨rfl, e1, e2, e3⟩
    · go_wp2_with fail
      go_ret
      exact ⟨rfl, B⟩
    · go_wp2_with fail
      refine (I8.out trivial _).mono ?_
      rintro e w22 ⟨rfl, b22⟩
      have B := B.then b22
      have hsl := fun W => slice_to c (a0.size : Int) a0.size rfl e1 W
      have hge : ¬ (c.size : Int) < (a0.size : Int) := by omega
      rw [e2] at hsl
      go_wp2_with fail
      go_ret
      exact ⟨rfl, B⟩


theorem own : ownKnob Try.prog.godebug = none := by kernel_rfl

set_option maxRecDepth 100000 in
theorem lifted (os : Os) (started : os.Started) (H : Type) (enc : TypeId × Value → H) :
    ReturnsInHanded {} Try.checked os 9 .any (Rows.fnPromiseOfAllSpec.pre6 enc Try.prog Try.f9 Rows.fnPromiseOfAllRow.domain false) (Rows.fnPromiseOfAllSpec.post enc Try.prog Try.f9 false true false false) := by
  refine returnsInHanded_of_change (C := Try.checked) own started (by kernel_rfl) Try.func9
    (ChangeSpec.witness6 (enc := enc) (C := Try.checked) false ⟨#[], #[.string ByteArray.empty, .int .i64 0], []⟩ 8 (by kernel_rfl) (by kernel_rfl) (by kernel_rfl) (by kernel_rfl)) ?_
  intro W base args ds gs before hval0 hW hcnd _
  have hval : ∀ (j : Nat) t v, Try.f9.params[j]? = some t → args[j]? = some v → Value.okWide Try.prog W .any base t v := hval0
  have hW' := hW
  obtain ⟨p, q, hA0, hV, rfl, hfz, hnd⟩ := hW
  have hA : DataW.TrodAll enc Try.prog W 0 (fun _ => true) true Try.f9.params.toList args.toList ds p := hA0
  rw [Try.params9] at hA hval
  obtain ⟨v0, vs0, d0, ds0, p0, q0, hargs, rfl, rfl, h0, r0⟩ := trodAll_cons hA
  obtain ⟨v1, vs1, d1, ds1, p1, q1, rfl, rfl, rfl, h1, r1⟩ := trodAll_cons r0
  obtain ⟨rfl, rfl, rfl⟩ := trodAll_nil r1
  obtain rfl : args = #[v0, v1] := by cases args; simp_all
  obtain ⟨rfl, rfl⟩ := trodVars_none hV
  obtain ⟨a0, rfl, rfl, rfl, w0⟩ := open_string Try.underlying9 (hval 0 9 v0 rfl rfl) h0
  obtain ⟨a1, rfl, rfl, rfl, w1⟩ := open_int Try.underlying2 (hval 1 2 v1 rfl rfl) h1
  clear hA0 hval0
  refine (walk a0 a1 W w0 w1).mono fun e W' ⟨he, bel⟩ => ?_
  subst he
  exact ⟨_, rfl, _, _, _, [], _, [], hW', trodAll_mk1 (shut_bool Try.underlying4 _), (trodAll_cons_mk (shut_string Try.underlying9 w0) (trodAll_cons_mk (shut_int Try.underlying2 w1) trodAll_mk0)), rfl, bel.frame _, fun h => by cases h⟩

theorem over : Rows.fnPromiseOfAllRow.holds Try.pinned (OpenSpec.ofChange Rows.fnPromiseOfAllSpec) :=
  OpenClaim.holds_of_wide 9 Try.f9 rfl rfl rfl rfl rfl rfl rfl ⟨rfl, rfl, rfl, rfl, rfl⟩ rfl rfl rfl rfl rfl (by kernel_rfl) Try.func9 (by kernel_rfl)
    (of_decide_eq_true (by kernel_rfl)) (by unfold Func.isWrapper; first | (rw [if_pos (by decide +kernel)]; kernel_rfl) | (rw [if_neg (by decide +kernel)]; exact ⟨rfl, rfl⟩))
    (fun os started H enc _ => lifted os started H enc)

theorem proved : Rows.FnPromiseOfAllSaid := over
#print axioms proved
