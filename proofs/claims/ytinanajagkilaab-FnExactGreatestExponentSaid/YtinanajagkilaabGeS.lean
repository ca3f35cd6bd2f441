/- The greatest exponent of a factor: the model. -/
import Derived.Test.YtinanajagkilaabGePlain
import Derived.Test.YtinanajagkilaabLoc
import Derived.Test.YtinanajagkilaabGcd
namespace Go.Proofs.Ytinanajagkilaab
set_option linter.unusedVariables false
set_option linter.unusedSimpArgs false
open Go.RowKit

theorem ext_get (x : ByteArray) (i m d : Nat) (h : i + m ≤ x.size) (hd : d < m) : (bl (x.extract i (i + m)))[d]? = (bl x)[i + d]? := by
  rw [bl_extract, List.getElem?_take_of_lt (by omega), List.getElem?_drop]
/-- What a test of a period has seen. -/
def PerUp (l : List UInt8) (q t : Nat) : Prop := ∀ d, d < t → d + q < l.length → l[d]? = l[d + q]?
theorem PerUp.start (l : List UInt8) (q : Nat) : PerUp l q 0 := fun d h => by omega
theorem PerUp.succ {l : List UInt8} {q t : Nat} (h : PerUp l q t) (k : l[t]? = l[t + q]?) : PerUp l q (t + 1) := fun d hd hl => by
  by_cases e : d = t
  · subst e; exact k
  · exact h d (by omega) hl
theorem PerUp.done {l : List UInt8} {q t : Nat} (h : PerUp l q t) (ht : l.length ≤ t + q) : Per l q := fun d hd => h d (by omega) hd

set_option maxRecDepth 100000 in
set_option maxHeartbeats 2000000 in
theorem l03Period_any (x : ByteArray) (i m : Nat) (z : Int) (w : World) (hx : x.size ≤ 60) (hm : 0 < m) (him : i + m ≤ x.size) (hz : z = (i : Int) + (m : Int)) :
    Calls Try.prog 25 #[.string x, .int .i64 (i : Int), .int .i64 z] w fun e w' => e = .returned (.int .i64 (lpf x i m : Int)) ∧ Below w.heap.size w w' := by
  have zy : (bl (x.extract i (i + m))).length = m := by rw [bl_len]; simp; omega
  have hne : bl (x.extract i (i + m)) ≠ [] := fun e => by rw [e] at zy; simp at zy; omega
  have EG := fun d (hd : d < m) => ext_get x i m d him hd
  unfold lpf
  generalize bl (x.extract i (i + m)) = l at *
  have HEG := Lib.hid EG
  have HZ := Lib.hid zy
  have HNE := Lib.hid hne
  clear EG zy hne
  subst hz
  go_enter Try.func25, Try.ntmps25
  go_wp2
  go_loopg [7] m (fun g s7 wr => ∃ k : Nat, k + g = m ∧ k < m ∧ s7 = .int .i64 ((k : Int) + 1) ∧ Below w.heap.size w wr ∧ Hid (∀ q, 0 < q → q < k + 1 → ¬ Per l q))
  case atStart => exact ⟨0, by omega, hm, rfl, Below.refl _ _, Lib.hid fun q h2 h3 => by omega⟩
  case round =>
    obtain ⟨k, hk, hkm, rfl, hB, HQ⟩ := hrel
    obtain ⟨g, rfl⟩ : ∃ g, gk = g + 1 := ⟨gk - 1, by omega⟩
    by_cases hp : k + 1 < m
    · have hpi : (k : Int) + 1 < (i : Int) + (m : Int) - (i : Int) := by omega
      go_wp2
      go_loopg [8, 9] (m + 1) (fun g2 s8 s9 wr => ∃ (t : Nat) (good : Bool), t + g2 = m + 1 ∧ t ≤ m ∧ s8 = .bool good ∧ s9 = .int .i64 ((i : Int) + (t : Int)) ∧ Below w.heap.size w wr ∧ Hid (if good = true then PerUp l (k + 1) t else ¬ Per l (k + 1)))
      case atStart => exact ⟨0, true, by omega, by omega, rfl, by simp, hB, Lib.hid (PerUp.start _ _)⟩
      case round =>
        clear hB
        obtain ⟨t, good, ht, htm, rfl, rfl, hB, HU⟩ := hrel
        cases good with
        | false =>
          have HN : Hid (∀ q, 0 < q → q < k + 1 + 1 → ¬ Per l q) := Lib.hid fun q q0 q1 => by
            by_cases e : q = k + 1
            · subst e; exact HU.out
            · exact HQ.out q q0 (by omega)
          by_cases hc2 : (i : Int) + (t : Int) + ((k : Int) + 1) < (i : Int) + (m : Int)
          · go_wp2
            go_roundg g
            case measure => omega
            case rel => exact ⟨k + 1, by omega, by omega, by go_num, hB, HN⟩
          · go_wp2
            go_roundg g
            case measure => omega
            case rel => exact ⟨k + 1, by omega, by omega, by go_num, hB, HN⟩
        | true =>
          have HU2 : Hid (PerUp l (k + 1) t) := Lib.hid (by have := HU.out; simpa using this)
          clear HU
          by_cases hc : t + (k + 1) < m
          · obtain ⟨g2, rfl⟩ : ∃ g2, gk = g2 + 1 := ⟨gk - 1, by omega⟩
            have z1 : i + t < x.size := by omega
            have z2 : i + (t + (k + 1)) < x.size := by omega
            have hle : (x[i + t]'z1).toNat = (x[i + (t + (k + 1))]'z2).toNat ↔ l[t]? = l[t + (k + 1)]? := by
              rw [HEG.out t (by omega), HEG.out (t + (k + 1)) hc]
              exact letter_eq x _ _ z1 z2
            have hix1 : ∀ W, (Instr.index 9 (.string x) (.int .i64 ((i : Int) + (t : Int)))).run Try.prog W = .ok (.int .u8 ((x[i + t]'z1).toNat : Int)) W := fun W => index_at x _ (i + t) z1 (by omega) W
            have hix2 : ∀ W, (Instr.index 9 (.string x) (.int .i64 ((i : Int) + (t : Int) + ((k : Int) + 1)))).run Try.prog W = .ok (.int .u8 ((x[i + (t + (k + 1))]'z2).toNat : Int)) W := fun W => index_at x _ (i + (t + (k + 1))) z2 (by omega) W
            generalize (x[i + t]'z1).toNat = a at hle hix1
            generalize (x[i + (t + (k + 1))]'z2).toNat = b at hle hix2
            have hc2 : (i : Int) + (t : Int) + ((k : Int) + 1) < (i : Int) + (m : Int) := by omega
            by_cases he : a = b
            · have HL := Lib.hid (HU2.out.succ (hle.1 he))
              have hee : (a : Int) = (b : Int) := by omega
              clear hle he
              go_wp2
              go_quiet (fail)
              go_wp2
              go_roundg g2
              case measure => omega
              case rel => exact ⟨t + 1, true, by omega, by omega, by first | rfl | simp [hee], by go_num, hB.drewN _, HL⟩
            · have hee : ¬ (a : Int) = (b : Int) := by omega
              have HN : Hid (¬ Per l (k + 1)) := Lib.hid fun hper => he (hle.2 (hper t (by rw [HZ.out]; exact hc)))
              clear hle he
              go_wp2
              go_quiet (fail)
              go_wp2
              go_roundg g2
              case measure => omega
              case rel => exact ⟨t + 1, false, by omega, by omega, by first | rfl | simp [hee], by go_num, hB.drewN _, Lib.hid (by rw [if_neg (by decide)]; exact HN.out)⟩
          · have hlo : lp l = k + 1 := lp_of ⟨by omega, by rw [HZ.out]; omega, HU2.out.done (by rw [HZ.out]; omega), HQ.out⟩
            have HL := Lib.hid hlo
            have hc2 : ¬ (i : Int) + (t : Int) + ((k : Int) + 1) < (i : Int) + (m : Int) := by omega
            clear hlo
            go_wp2
            go_ret
            exact ⟨by rw [HL.out]; rfl, hB⟩
    · have hkm2 : k + 1 = m := by omega
      have hlo : lp l = m := lp_of ⟨hm, by rw [HZ.out]; exact Nat.le_refl _, by have := per_all l; rwa [HZ.out] at this, fun q q0 q1 => HQ.out q q0 (by omega)⟩
      have HL := Lib.hid hlo
      have hpi : ¬ (k : Int) + 1 < (i : Int) + (m : Int) - (i : Int) := by omega
      clear hlo
      go_wp2
      go_ret
      refine ⟨?_, hB⟩
      rw [HL.out]
      have : (i : Int) + (m : Int) - (i : Int) = (m : Int) := by omega
      first
        | rfl
        | (simp; omega)

set_option maxRecDepth 100000 in
set_option maxHeartbeats 4000000 in
theorem spec_Ge_ok (x : ByteArray) (w : World) (h : IsW x) (h0 : ¬ x.size = 0) :
    Calls Try.prog 9 #[.string x] w fun e w' => e = .returned (.tuple #[.int .i64 (geR x).1, .int .i64 (geR x).2.1, .int .i64 (geR x).2.2]) ∧ Below w.heap.size w w' := by
  have hx := h.size
  have hq := teq_not_nil h0
  have H := Lib.hid h
  have GR := Lib.hid fun s (hs : GeB x allS s) => geR_ok h h0 hs
  clear h
  generalize geR x = R at *
  go_enter Try.func9, Try.ntmps9
  go_wp2_with fail
  refine (l01Is_yes x _ H.out).mono ?_
  rintro e w1 ⟨rfl, b1⟩
  go_wp2_with fail
  go_loopg [5, 6, 8] x.size (fun g s5 s6 s8 wr => ∃ (i : Nat) (s : Nat × Nat), i + g = x.size ∧ s8 = .int .i64 (i : Int) ∧ s5 = .int .i64 (s.1 : Int) ∧ s6 = .int .i64 (s.2 : Int) ∧ Below w.heap.size w wr ∧ Hid (GeB x (fun i' m' => i' < i) s))
  case atStart => exact ⟨0, (1, 1), by omega, rfl, rfl, rfl, b1, Lib.hid (GeB.start x fun i m h => by omega)⟩
  case round =>
    obtain ⟨i, s, hg, rfl, rfl, rfl, hB, HG⟩ := hrel
    by_cases hp : i < x.size
    · obtain ⟨g, rfl⟩ : ∃ g, gk = g + 1 := ⟨gk - 1, by omega⟩
      have HG1 : Hid (GeB x (fun i' m' => i' < i ∨ (i' = i ∧ m' < 1)) s) := Lib.hid (HG.out.mono fun i' m' hs h1 h2 => by omega)
      have hpi : (i : Int) < (x.size : Int) := by omega
      go_wp2
      go_loopg [5, 6, 9] (x.size + 1 - i) (fun g2 s5 s6 s9 wr => ∃ (m : Nat) (s : Nat × Nat), 0 < m ∧ i + m + g2 = x.size + 2 ∧ i + m ≤ x.size + 1 ∧ s9 = .int .i64 ((i : Int) + (m : Int)) ∧ s5 = .int .i64 (s.1 : Int) ∧ s6 = .int .i64 (s.2 : Int) ∧ Below w.heap.size w wr ∧ Hid (GeB x (fun i' m' => i' < i ∨ (i' = i ∧ m' < m)) s))
      case atStart => exact ⟨1, s, by omega, by omega, by omega, by simp, rfl, rfl, hB, HG1⟩
      case round =>
        clear hB HG HG1
        obtain ⟨m, s, hm, hg2, hle, rfl, rfl, rfl, hB, HG⟩ := hrel
        by_cases hc : i + m ≤ x.size
        · obtain ⟨g2, rfl⟩ : ∃ g2, gk = g2 + 1 := ⟨gk - 1, by omega⟩
          have HS : Hid (GeB x (fun i' m' => i' < i ∨ (i' = i ∧ m' < m + 1)) (geStep s m (lpf x i m))) := Lib.hid ((HG.out.step hm hc).mono fun i' m' hs h1 h2 => by omega)
          have hb1 := HG.out.2.2.1
          have hb2 := HG.out.2.2.2.1
          have hb3 := HG.out.1
          have hb4 := HG.out.2.1
          have hb5 := lpf_bd hm hc
          have CP := Lib.hid fun w => l03Period_any x i m ((i : Int) + (m : Int)) w hx hm hc rfl
          obtain ⟨s1, s2⟩ := s
          have hci : (i : Int) + (m : Int) ≤ (x.size : Int) := by omega
          dsimp only at *
          generalize lpf x i m = q at *
          obtain ⟨P, hP⟩ : ∃ P, m * s2 = P := ⟨_, rfl⟩
          obtain ⟨Q, hQ⟩ : ∃ Q, s1 * q = Q := ⟨_, rfl⟩
          have hPi : ((i : Int) + (m : Int) - (i : Int)) * (s2 : Int) = (P : Int) := by rw [← hP, Int.natCast_mul]; congr 1; omega
          have hPi2 : (m : Int) * (s2 : Int) = (P : Int) := by rw [← hP, Int.natCast_mul]
          have hQi : (s1 : Int) * (q : Int) = (Q : Int) := by rw [← hQ, Int.natCast_mul]
          have hPl : P ≤ 3600 := by rw [← hP]; exact Nat.mul_le_mul (show m ≤ 60 by omega) (show s2 ≤ 60 by omega)
          have hQl : Q ≤ 3600 := by rw [← hQ]; exact Nat.mul_le_mul (show s1 ≤ 60 by omega) (show q ≤ 60 by omega)
          have hp1 : (0 : Int) ≤ ((i : Int) + (m : Int) - (i : Int)) * (s2 : Int) := by omega
          have hp2 : (0 : Int) ≤ (m : Int) * (s2 : Int) := by omega
          have hp3 : (0 : Int) ≤ (s1 : Int) * (q : Int) := by omega
          by_cases hgt : Q < P
          · have HS2 : Hid (GeB x (fun i' m' => i' < i ∨ (i' = i ∧ m' < m + 1)) (m, q)) := Lib.hid (by have := HS.out; unfold geStep at this; rwa [if_pos (show s1 * q < m * s2 by omega)] at this)
            have hgi : (Q : Int) < (P : Int) := by omega
            have hmm : (i : Int) + (m : Int) - (i : Int) = (m : Int) := by omega
            have HMM := Lib.hid hmm
            clear hP hQ HS HG hgt hmm
            go_wp2_with fail
            refine (CP.out _).mono ?_
            rintro e w2 ⟨rfl, b2⟩
            go_wp2_with fail
            go_roundg g2
            case measure => omega
            case rel => exact ⟨m + 1, (m, q), by omega, by omega, by omega, by go_num, by first | rfl | rw [HMM.out], rfl, hB.then b2, HS2⟩
          · have HS2 : Hid (GeB x (fun i' m' => i' < i ∨ (i' = i ∧ m' < m + 1)) (s1, s2)) := Lib.hid (by have := HS.out; unfold geStep at this; rwa [if_neg (show ¬ s1 * q < m * s2 by omega)] at this)
            have hgi : ¬ (Q : Int) < (P : Int) := by omega
            clear hP hQ HS HG hgt
            go_wp2_with fail
            refine (CP.out _).mono ?_
            rintro e w2 ⟨rfl, b2⟩
            go_wp2_with fail
            go_roundg g2
            case measure => omega
            case rel => exact ⟨m + 1, (s1, s2), by omega, by omega, by omega, by go_num, rfl, rfl, hB.then b2, HS2⟩
        · have HN : Hid (GeB x (fun i' m' => i' < i + 1) s) := Lib.hid (HG.out.mono fun i' m' hs h1 h2 => by omega)
          have hci : ¬ (i : Int) + (m : Int) ≤ (x.size : Int) := by omega
          go_wp2
          go_roundg g
          case measure => omega
          case rel => exact ⟨i + 1, s, by omega, by go_num, rfl, rfl, hB, HN⟩
    · have HN : Hid (GeB x allS s) := Lib.hid (HG.out.mono fun i' m' hs h1 h2 => by omega)
      have hpi : ¬ (i : Int) < (x.size : Int) := by omega
      have hb1 := HN.out.2.2.1
      have hb2 := HN.out.2.2.2.1
      have hb3 := HN.out.1
      have hb4 := HN.out.2.1
      have HV := Lib.hid (GR.out s HN.out)
      obtain ⟨s1, s2⟩ := s
      dsimp only at *
      have hg0 := Nat.gcd_pos_of_pos_left s2 hb3
      clear GR HG
      go_wp2
      go_loopg [11, 12] (s2 + 1) (fun g s11 s12 wr => ∃ p q : Nat, q < g ∧ s11 = .int .i64 (p : Int) ∧ s12 = .int .i64 (q : Int) ∧ Hid (Nat.gcd p q = Nat.gcd s1 s2) ∧ Below w.heap.size w wr)
      case atStart => exact ⟨s1, s2, by omega, rfl, rfl, Lib.hid rfl, hB⟩
      case round =>
        clear hB
        obtain ⟨p, q, hqg, rfl, rfl, HD, hB⟩ := hrel
        by_cases hq0 : 0 < q
        · have hst := gcd_step p q
          have hlt := Nat.mod_lt p hq0
          have HS : Hid (Nat.gcd q (p % q) = Nat.gcd s1 s2) := Lib.hid (by rw [hst]; exact HD.out)
          have hmod : (p : Int) % (q : Int) = ((p % q : Nat) : Int) := by simp
          generalize p % q = r at hmod HS hlt
          have hqz : ¬ (q : Int) = 0 := by omega
          have hqb : ((q : Int) != 0) = true := by rw [bne_iff_ne]; exact hqz
          clear hst
          go_wp2
          go_roundg q
          case measure => omega
          case rel => exact ⟨q, r, hlt, rfl, by rw [hmod], HS, hB⟩
        · have hqe : q = 0 := by omega
          subst hqe
          have HP : Hid (p = Nat.gcd s1 s2) := Lib.hid (by rw [← HD.out, Nat.gcd_zero_right])
          have hpz : ¬ (p : Int) = 0 := by have := HP.out; omega
          go_wp2
          go_quiet (fail)
          go_wp2
          go_ret3
          refine ⟨?_, hB.drewN _⟩
          rw [HV.out, ← HP.out, ← wrap_quo s1 p (by omega), ← wrap_quo s2 p (by omega)]
          rfl

set_option maxRecDepth 100000 in
theorem spec_GreatestExponent (x : ByteArray) (w : World) (sx : x.size ≤ maxLen) :
    Calls Try.prog 9 #[.string x] w fun e w' => e = .returned (.tuple #[.int .i64 (geR x).1, .int .i64 (geR x).2.1, .int .i64 (geR x).2.2]) ∧ Below w.heap.size w w' := by
  by_cases h : IsW x
  · by_cases h0 : x.size = 0
    · rw [geR_nil h h0]
      have hq := teq_nil h0
      have H := Lib.hid h
      clear h
      go_enter Try.func9, Try.ntmps9
      go_wp2_with fail
      refine (l01Is_yes x _ H.out).mono ?_
      rintro e w1 ⟨rfl, b1⟩
      go_wp2_with fail
      go_ret3
      exact ⟨rfl, b1⟩
    · exact spec_Ge_ok x w h h0
  · rw [geR_bad h]
    have H := Lib.hid h
    clear h
    go_enter Try.func9, Try.ntmps9
    go_wp2_with fail
    refine (l01Is_no x _ sx H.out).mono ?_
    rintro e w1 ⟨rfl, b1⟩
    go_wp2_with fail
    go_ret3
    exact ⟨rfl, b1⟩

end Go.Proofs.Ytinanajagkilaab
