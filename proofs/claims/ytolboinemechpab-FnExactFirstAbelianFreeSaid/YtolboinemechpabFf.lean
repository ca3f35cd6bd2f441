/- The first word without abelian powers: the program and the model. -/
import Derived.Test.YtolboinemechpabSumPlain
import Derived.Test.YtolboinemechpabAbI
import Derived.Test.YtolboinemechpabAbS
import Derived.Test.YtolboinemechpabLetter
import Derived.Test.YtolboinemechpabWordOf
import Derived.Test.YtolboinemechpabWordsPlain
import Derived.Test.YtolboinemechpabNextPlain
namespace Go.Proofs.Ytolboinemechpab
set_option linter.unusedVariables false
set_option linter.unusedSimpArgs false
open Go.RowKit

theorem isW_lt1 {x : ByteArray} (h : IsW x) (hl : x.size < 60) {c : Nat} (hc : c ≤ 4) : IsW (x ++ lt1 c) := by
  refine ⟨by rw [ByteArray.size_append, lt1_size]; omega, fun i hi => ?_⟩
  have key : ∀ b ∈ bl (x ++ lt1 c), 97 ≤ b.toNat ∧ b.toNat ≤ 101 := by
    intro b hb
    rw [bl_append, List.mem_append] at hb
    rcases hb with hb | hb
    · exact h.mem hb
    · have e : bl (lt1 c) = [letB (c : Int)] := rfl
      rw [e, List.mem_singleton] at hb
      have := letB_nat (n := (c : Int)) (by omega) (by omega)
      rw [hb]
      omega
  exact key _ (List.getElem_mem (by exact hi))
theorem apB_end (l : List UInt8) (k m : Nat) (h : k * m ≤ l.length) : apB l k (l.length - k * m) m ↔ alk (l.drop (l.length - k * m)) m := by
  unfold apB
  rw [List.take_of_length_le (by rw [List.length_drop]; omega)]
  exact ⟨fun q => q.2, fun q => ⟨by omega, q⟩⟩

theorem slice_from' (x : ByteArray) (a : Int) (n : Nat) (ha : a = (n : Int)) (h : n ≤ x.size) (W : World) :
    (Instr.slice 9 (.string x) (some (.int .i64 a)) none none).run Try.prog W = .ok (.string (x.extract n x.size)) W := by
  subst ha
  have := run_slice_string_l (P := Try.prog) W 9 x Try.underlying9 .i64 (n : Int) (by omega) (by omega)
  simpa using this

set_option maxRecDepth 100000 in
set_option maxHeartbeats 1000000 in
theorem ends_any (x : ByteArray) (k : Nat) (w : World) (h : IsW x) (k1 : 2 ≤ k) (k2 : k ≤ 60) :
    Calls Try.prog 115 #[.string x, .int .i64 (k : Int)] w fun e w' => e = .returned (.bool (decide (endB (bl x) k))) ∧ Below w.heap.size w w' := by
  obtain ⟨R, hR⟩ : ∃ R, decide (endB (bl x) k) = R := ⟨_, rfl⟩
  rw [hR]
  have HR := Lib.hid hR
  have hx := h.size
  have H := Lib.hid h
  clear hR h
  go_enter Try.func115, Try.ntmps115
  go_wp2
  go_loopg [6] 62 (fun gk s6 wr => ∃ m : Nat, 1 ≤ m ∧ m + gk = 63 ∧ m ≤ 31 ∧ s6 = .int .i64 (m : Int) ∧ Hid (endTo (bl x) k m) ∧ Below w.heap.size w wr)
  case atStart => exact ⟨1, by omega, by omega, by omega, rfl, Lib.hid (endTo.one _ _), Below.refl _ _⟩
  case round =>
    obtain ⟨m, m1, hg, m3, rfl, HT, hB⟩ := hrel
    obtain ⟨P, hP⟩ : ∃ P, k * m = P := ⟨_, rfl⟩
    have hPi : (k : Int) * (m : Int) = (P : Int) := by rw [← hP]; exact (Int.natCast_mul k m).symm
    have hP2 : 2 * m ≤ P := by rw [← hP]; exact Nat.mul_le_mul_right m k1
    have hPl : P ≤ 4000 := by rw [← hP]; exact Nat.le_trans (Nat.mul_le_mul k2 (show m ≤ 31 by omega)) (by decide)
    have HP := Lib.hid hP
    clear hP
    by_cases hc : P ≤ x.size
    · obtain ⟨g, rfl⟩ : ∃ g, gk = g + 1 := ⟨gk - 1, by omega⟩
      have hci : (P : Int) ≤ (x.size : Int) := by omega
      have hsl := fun W => slice_from' x ((x.size : Int) - (P : Int)) (x.size - P) (by omega) (by omega) W
      have CF := Lib.hid fun W => areFactorsAlike_any (x.extract (x.size - P) x.size) m W (H.out.sub _ _) (by omega) (by omega)
      rw [bl_drop] at CF
      obtain ⟨q, hq⟩ : ∃ q, decide (alk ((bl x).drop (x.size - P)) m) = q := ⟨_, rfl⟩
      rw [hq] at CF
      have HQ := Lib.hid hq
      clear hq
      go_wp2_with fail
      refine (CF.out _).mono ?_
      rintro e w2 ⟨rfl, b2⟩
      have hB2 := hB.then b2
      clear b2 hB hsl
      cases q with
      | true =>
        have HN : Hid (R = true) := Lib.hid (by
          rw [← HR.out]
          have h1 := of_decide_eq_true HQ.out
          have := endB.yes (l := bl x) (k := k) m1 (by rw [HP.out, bl_len]; exact hc) (by rw [HP.out, bl_len]; exact h1)
          simp [this])
        go_wp2_with fail
        go_ret
        exact ⟨by rw [HN.out]; rfl, hB2⟩
      | false =>
        have HT2 := Lib.hid (HT.out.succ (by rw [HP.out, bl_len]; exact of_decide_eq_false HQ.out))
        go_wp2_with fail
        go_roundg g
        case measure => omega
        case rel => exact ⟨m + 1, by omega, by omega, by omega, by go_num, HT2, hB2⟩
    · have hci : ¬ (P : Int) ≤ (x.size : Int) := by omega
      have HN : Hid (R = false) := Lib.hid (by
        rw [← HR.out]
        have := HT.out.no (by rw [HP.out, bl_len]; omega)
        simp [this])
      go_wp2
      go_ret
      exact ⟨by rw [HN.out]; rfl, hB⟩

set_option maxRecDepth 100000 in
set_option maxHeartbeats 1000000 in
theorem l07Ends_any (x : ByteArray) (k : Nat) (w : World) (h : IsW x) (k1 : 2 ≤ k) (k2 : k ≤ 60) :
    Calls Try.prog 114 #[.string x, .int .i64 (k : Int)] w fun e w' => e = .returned (.bool (decide (endB (bl x) k))) ∧ Below w.heap.size w w' := by
  obtain ⟨R, hR⟩ : ∃ R, decide (endB (bl x) k) = R := ⟨_, rfl⟩
  rw [hR]
  have HR := Lib.hid hR
  have hx := h.size
  have H := Lib.hid h
  clear hR h
  go_enter Try.func114, Try.ntmps114
  go_wp2
  go_loopg [6] 62 (fun gk s6 wr => ∃ m : Nat, 1 ≤ m ∧ m + gk = 63 ∧ m ≤ 31 ∧ s6 = .int .i64 (m : Int) ∧ Hid (endTo (bl x) k m) ∧ Below w.heap.size w wr)
  case atStart => exact ⟨1, by omega, by omega, by omega, rfl, Lib.hid (endTo.one _ _), Below.refl _ _⟩
  case round =>
    obtain ⟨m, m1, hg, m3, rfl, HT, hB⟩ := hrel
    obtain ⟨P, hP⟩ : ∃ P, k * m = P := ⟨_, rfl⟩
    have hPi : (m : Int) * (k : Int) = (P : Int) := by rw [← hP, Int.mul_comm]; exact (Int.natCast_mul k m).symm
    have hP2 : 2 * m ≤ P := by rw [← hP]; exact Nat.mul_le_mul_right m k1
    have hPl : P ≤ 4000 := by rw [← hP]; exact Nat.le_trans (Nat.mul_le_mul k2 (show m ≤ 31 by omega)) (by decide)
    have HP := Lib.hid hP
    clear hP
    by_cases hc : P ≤ x.size
    · obtain ⟨g, rfl⟩ : ∃ g, gk = g + 1 := ⟨gk - 1, by omega⟩
      have hci : (P : Int) ≤ (x.size : Int) := by omega
      obtain ⟨D, hD⟩ : ∃ D, x.size - P = D := ⟨_, rfl⟩
      have hDi : (x.size : Int) - (P : Int) = (D : Int) := by omega
      have CF := Lib.hid fun W => l07Power_any x D m k W H.out (by omega) (by omega) (by omega) (by omega) k2
      have HE : Hid (apB (bl x) k D m ↔ alk ((bl x).drop D) m) := Lib.hid (by
        have := apB_end (bl x) k m (by rw [HP.out, bl_len]; exact hc)
        rw [HP.out, bl_len, hD] at this
        exact this)
      have HD := Lib.hid hD
      obtain ⟨q, hq⟩ : ∃ q, decide (apB (bl x) k D m) = q := ⟨_, rfl⟩
      rw [hq] at CF
      have HQ := Lib.hid hq
      clear hq hD
      go_wp2_with fail
      refine (CF.out _).mono ?_
      rintro e w2 ⟨rfl, b2⟩
      have hB2 := hB.then b2
      clear b2 hB
      cases q with
      | true =>
        have HN : Hid (R = true) := Lib.hid (by
          rw [← HR.out]
          have h1 := HE.out.1 (of_decide_eq_true HQ.out)
          have := endB.yes (l := bl x) (k := k) m1 (by rw [HP.out, bl_len]; exact hc) (by rw [HP.out, bl_len, HD.out]; exact h1)
          simp [this])
        go_wp2_with fail
        go_ret
        exact ⟨by rw [HN.out]; rfl, hB2⟩
      | false =>
        have HT2 := Lib.hid (HT.out.succ (by rw [HP.out, bl_len, HD.out]; exact fun h => of_decide_eq_false HQ.out (HE.out.2 h)))
        go_wp2_with fail
        go_roundg g
        case measure => omega
        case rel => exact ⟨m + 1, by omega, by omega, by omega, by go_num, HT2, hB2⟩
    · have hci : ¬ (P : Int) ≤ (x.size : Int) := by omega
      have HN : Hid (R = false) := Lib.hid (by
        rw [← HR.out]
        have := HT.out.no (by rw [HP.out, bl_len]; omega)
        simp [this])
      go_wp2
      go_ret
      exact ⟨by rw [HN.out]; rfl, hB⟩

/-- What a search for the first word comes to. -/
def FoundA (o : Option (List UInt8)) (w : World) (e : Ending) (w' : World) : Prop := ∃ (s : ByteArray) (ok : Bool), e = .returned (.tuple #[.string s, .bool ok]) ∧ Hid ((ok = true ∧ o = some (bl s)) ∨ (ok = false ∧ s = ⟨#[]⟩ ∧ o = none)) ∧ Below w.heap.size w w'

set_option maxRecDepth 100000 in
set_option maxHeartbeats 2000000 in
theorem firstFree_any (m j k : Nat) (hm : m ≤ 16) (hj : j ≤ 4) (k1 : 2 ≤ k) (k2 : k ≤ 4) : ∀ (d : Nat) (x : ByteArray) (w : World), x.size + d = m → IsW x →
    Calls Try.prog 54 #[.string x, .int .i64 (m : Int), .int .i64 (j : Int), .int .i64 (k : Int)] w (FoundA (ff j k d (bl x)) w)
  | 0, x, w, hx, hw => by
    have hxm : ((x.size : Int) == (m : Int)) = true := by rw [beq_iff_eq]; omega
    have hxm2 : (x.size : Int) = (m : Int) := by omega
    rw [ff_zero]
    clear hw
    go_enter Try.func54, Try.ntmps54
    go_wp2
    go_ret2
    exact ⟨_, _, rfl, Lib.hid (.inl ⟨rfl, rfl⟩), Below.refl _ _⟩
  | d + 1, x, w, hx, hw => by
    have hxm : ((x.size : Int) == (m : Int)) = false := by rw [beq_eq_false_iff_ne]; omega
    have hxm2 : ¬ (x.size : Int) = (m : Int) := by omega
    obtain ⟨R, hR⟩ : ∃ R, ff j k (d + 1) (bl x) = R := ⟨_, rfl⟩
    rw [hR]
    have HR : Hid (ffr (ffg j k d (bl x)) j 0 = R) := Lib.hid (by rw [← hR, ff_succ])
    have IH := Lib.hid (firstFree_any m j k hm hj k1 k2 d)
    have HX := Lib.hid hx
    have HW := Lib.hid hw
    have x60 : x.size ≤ 15 := by omega
    clear hR hx hw
    go_enter Try.func54, Try.ntmps54
    go_wp2_with fail
    go_loopg [20] j (fun g s wr => ∃ c : Nat, c + g = j ∧ s = .int .i64 (c : Int) ∧ Below w.heap.size w wr ∧ Hid (ffr (ffg j k d (bl x)) g c = R))
    case atStart => exact ⟨0, by omega, rfl, Below.refl _ _, HR⟩
    case round =>
      obtain ⟨c, hg, rfl, hB, HN⟩ := hrel
      clear HR
      by_cases hp : c < j
      · obtain ⟨g, rfl⟩ : ∃ g, gk = g + 1 := ⟨gk - 1, by omega⟩
        have hpi : (c : Int) < (j : Int) := by omega
        have e1 := lt1_size c
        have LT := Lib.hid (show (⟨#[letB (c : Int)]⟩ : ByteArray) = lt1 c from rfl)
        have hen := encode_letter c (by omega)
        have e4 : (lt1 c).size ≤ 1 := by omega
        have hsum : ∀ W, (Op.stringOp .add x (lt1 c)).run Try.prog W = .ok (.string (x ++ lt1 c)) W := fun W => run_string_add_sum W _ _ (by rw [lt1_size]; omega)
        have e2 : (x ++ lt1 c).size = x.size + 1 := by rw [ByteArray.size_append, lt1_size]
        have hwy := isW_lt1 HW.out (by omega) (show c ≤ 4 by omega)
        have CE := fun W => ends_any (x ++ lt1 c) k W hwy k1 (by omega)
        have CI := Lib.hid fun W => IH.out (x ++ lt1 c) W (by have := HX.out; omega) hwy
        have eb : bl (x ++ lt1 c) = bl x ++ [letr c] := bl_lt1 x c
        rw [eb] at CE CI
        by_cases he : endB (bl x ++ [letr c]) k
        · simp only [he, decide_true] at CE
          have CE2 := Lib.hid CE
          have HN2 : Hid (ffr (ffg j k d (bl x)) g (c + 1) = R) := Lib.hid (by rw [← HN.out, ffr_miss (ffg_end he)])
          clear he CE e1 CI e2 hwy eb
          generalize lt1 c = t at *
          generalize x ++ t = y at *
          go_wp2_with fail
          refine (letterOf_any (c : Int) _ (by omega) (by omega)).mono ?_
          rintro e w1 ⟨rfl, rfl⟩
          go_simp
          go_wp2_with fail
          refine (CE2.out _).mono ?_
          rintro e w2 ⟨rfl, b2⟩
          have hB2 := (hB).then b2
          clear hB b2
          go_simp
          go_wp2_with fail
          go_roundg g
          case measure => omega
          case rel => exact ⟨c + 1, by omega, by go_num, hB2, HN2⟩
        · simp only [he, decide_false] at CE
          have CE2 := Lib.hid CE
          have HF := Lib.hid (ffg_on (d := d) (j := j) he)
          clear he CE e1 e2 hwy eb
          generalize lt1 c = t at *
          generalize x ++ t = y at *
          go_wp2_with fail
          refine (letterOf_any (c : Int) _ (by omega) (by omega)).mono ?_
          rintro e w1 ⟨rfl, rfl⟩
          go_simp
          go_wp2_with fail
          refine (CE2.out _).mono ?_
          rintro e w2 ⟨rfl, b2⟩
          go_simp
          go_wp2_with fail
          refine (CI.out _).mono ?_
          rintro e w3 ⟨s, ok, rfl, HV, b3⟩
          have hB2 := ((hB).then b2).then b3
          clear hB b2 b3
          cases ok with
          | true =>
            have HO : Hid (R = some (bl s)) := Lib.hid (by
              rcases HV.out with ⟨_, h⟩ | ⟨h, _⟩
              · rw [← HN.out, ffr_hit (HF.out.trans h)]
              · cases h)
            go_simp
            go_wp2_with fail
            go_ret2
            exact ⟨_, _, rfl, Lib.hid (.inl ⟨rfl, HO.out⟩), hB2⟩
          | false =>
            have HO : Hid (ffr (ffg j k d (bl x)) g (c + 1) = R) := Lib.hid (by
              rcases HV.out with ⟨h, _⟩ | ⟨_, _, h⟩
              · cases h
              · rw [← HN.out, ffr_miss (HF.out.trans h)])
            go_simp
            go_wp2_with fail
            go_roundg g
            case measure => omega
            case rel => exact ⟨c + 1, by omega, by go_num, hB2, HO⟩
      · have hpi : ¬ (c : Int) < (j : Int) := by omega
        obtain rfl : gk = 0 := by omega
        have HO : Hid (R = none) := Lib.hid (by rw [← HN.out]; rfl)
        go_wp2
        go_ret2
        exact ⟨_, _, rfl, Lib.hid (.inr ⟨rfl, rfl, HO.out⟩), hB⟩

set_option maxRecDepth 100000 in
set_option maxHeartbeats 2000000 in
theorem l07Find_any (m j k : Nat) (hm : m ≤ 16) (hj : j ≤ 4) (k1 : 2 ≤ k) (k2 : k ≤ 4) : ∀ (d : Nat) (x : ByteArray) (w : World), x.size + d = m → IsW x →
    Calls Try.prog 53 #[.string x, .int .i64 (m : Int), .int .i64 (j : Int), .int .i64 (k : Int)] w (FoundA (ff j k d (bl x)) w)
  | 0, x, w, hx, hw => by
    have hxm : ((x.size : Int) == (m : Int)) = true := by rw [beq_iff_eq]; omega
    have hxm2 : (x.size : Int) = (m : Int) := by omega
    rw [ff_zero]
    clear hw
    go_enter Try.func53, Try.ntmps53
    go_wp2
    go_ret2
    exact ⟨_, _, rfl, Lib.hid (.inl ⟨rfl, rfl⟩), Below.refl _ _⟩
  | d + 1, x, w, hx, hw => by
    have hxm : ((x.size : Int) == (m : Int)) = false := by rw [beq_eq_false_iff_ne]; omega
    have hxm2 : ¬ (x.size : Int) = (m : Int) := by omega
    obtain ⟨R, hR⟩ : ∃ R, ff j k (d + 1) (bl x) = R := ⟨_, rfl⟩
    rw [hR]
    have HR : Hid (ffr (ffg j k d (bl x)) j 0 = R) := Lib.hid (by rw [← hR, ff_succ])
    have IH := Lib.hid (l07Find_any m j k hm hj k1 k2 d)
    have HX := Lib.hid hx
    have HW := Lib.hid hw
    have x60 : x.size ≤ 15 := by omega
    clear hR hx hw
    go_enter Try.func53, Try.ntmps53
    go_wp2_with fail
    go_loopg [10] j (fun g s wr => ∃ c : Nat, c + g = j ∧ s = .int .i64 (c : Int) ∧ Below w.heap.size w wr ∧ Hid (ffr (ffg j k d (bl x)) g c = R))
    case atStart => exact ⟨0, by omega, rfl, Below.refl _ _, HR⟩
    case round =>
      obtain ⟨c, hg, rfl, hB, HN⟩ := hrel
      clear HR
      by_cases hp : c < j
      · obtain ⟨g, rfl⟩ : ∃ g, gk = g + 1 := ⟨gk - 1, by omega⟩
        have hpi : (c : Int) < (j : Int) := by omega
        have e1 := lt1_size c
        have LT := Lib.hid (show (⟨#[letB (c : Int)]⟩ : ByteArray) = lt1 c from rfl)
        have hen := encode_letter c (by omega)
        have e4 : (lt1 c).size ≤ 1 := by omega
        have hsum : ∀ W, (Op.stringOp .add x (lt1 c)).run Try.prog W = .ok (.string (x ++ lt1 c)) W := fun W => run_string_add_sum W _ _ (by rw [lt1_size]; omega)
        have e2 : (x ++ lt1 c).size = x.size + 1 := by rw [ByteArray.size_append, lt1_size]
        have hwy := isW_lt1 HW.out (by omega) (show c ≤ 4 by omega)
        have CE := fun W => l07Ends_any (x ++ lt1 c) k W hwy k1 (by omega)
        have CI := Lib.hid fun W => IH.out (x ++ lt1 c) W (by have := HX.out; omega) hwy
        have eb : bl (x ++ lt1 c) = bl x ++ [letr c] := bl_lt1 x c
        rw [eb] at CE CI
        by_cases he : endB (bl x ++ [letr c]) k
        · simp only [he, decide_true] at CE
          have CE2 := Lib.hid CE
          have HN2 : Hid (ffr (ffg j k d (bl x)) g (c + 1) = R) := Lib.hid (by rw [← HN.out, ffr_miss (ffg_end he)])
          clear he CE e1 CI e2 hwy eb
          generalize lt1 c = t at *
          generalize x ++ t = y at *
          go_wp2_with fail
          refine (l01Letter_any (c : Int) _ (by omega) (by omega)).mono ?_
          rintro e w1 ⟨rfl, b1⟩
          rw [LT.out]
          go_simp
          go_wp2_with fail
          refine (CE2.out _).mono ?_
          rintro e w2 ⟨rfl, b2⟩
          have hB2 := (hB.then b1).then b2
          clear hB b1 b2
          go_simp
          go_wp2_with fail
          go_roundg g
          case measure => omega
          case rel => exact ⟨c + 1, by omega, by go_num, hB2, HN2⟩
        · simp only [he, decide_false] at CE
          have CE2 := Lib.hid CE
          have HF := Lib.hid (ffg_on (d := d) (j := j) he)
          clear he CE e1 e2 hwy eb
          generalize lt1 c = t at *
          generalize x ++ t = y at *
          go_wp2_with fail
          refine (l01Letter_any (c : Int) _ (by omega) (by omega)).mono ?_
          rintro e w1 ⟨rfl, b1⟩
          rw [LT.out]
          go_simp
          go_wp2_with fail
          refine (CE2.out _).mono ?_
          rintro e w2 ⟨rfl, b2⟩
          go_simp
          go_wp2_with fail
          refine (CI.out _).mono ?_
          rintro e w3 ⟨s, ok, rfl, HV, b3⟩
          have hB2 := ((hB.then b1).then b2).then b3
          clear hB b1 b2 b3
          cases ok with
          | true =>
            have HO : Hid (R = some (bl s)) := Lib.hid (by
              rcases HV.out with ⟨_, h⟩ | ⟨h, _⟩
              · rw [← HN.out, ffr_hit (HF.out.trans h)]
              · cases h)
            go_simp
            go_wp2_with fail
            go_ret2
            exact ⟨_, _, rfl, Lib.hid (.inl ⟨rfl, HO.out⟩), hB2⟩
          | false =>
            have HO : Hid (ffr (ffg j k d (bl x)) g (c + 1) = R) := Lib.hid (by
              rcases HV.out with ⟨h, _⟩ | ⟨_, _, h⟩
              · cases h
              · rw [← HN.out, ffr_miss (HF.out.trans h)])
            go_simp
            go_wp2_with fail
            go_roundg g
            case measure => omega
            case rel => exact ⟨c + 1, by omega, by go_num, hB2, HO⟩
      · have hpi : ¬ (c : Int) < (j : Int) := by omega
        obtain rfl : gk = 0 := by omega
        have HO : Hid (R = none) := Lib.hid (by rw [← HN.out]; rfl)
        go_wp2
        go_ret2
        exact ⟨_, _, rfl, Lib.hid (.inr ⟨rfl, rfl, HO.out⟩), hB⟩

end Go.Proofs.Ytolboinemechpab
