/- Scattered words: the program's test and the model's. -/
import Derived.Test.YtedpbfddoobnnabWords
import Derived.Test.YtedpbfddoobnnabScatPlain
namespace Go.Proofs.Ytedpbfddoobnnab
open Go.RowKit

set_option maxRecDepth 100000 in
set_option maxHeartbeats 1000000 in
theorem impl_IsScattered (x y : ByteArray) (w : World) (sx : x.size ≤ maxLen) (sy : y.size ≤ maxLen) :
    Calls Try.prog 17 #[.string x, .string y] w fun e w' => e = .returned (.tuple #[.bool (scatR x y).1, .int .i64 (scatR x y).2]) ∧ Below w.heap.size w w' := by
  by_cases h : IsW x ∧ IsW y
  · have s1 := h.1.size
    have s2 := h.2.size
    rw [scatR_ok h]
    have H := Lib.hid h
    clear h
    go_enter Try.func17, Try.ntmps17
    go_wp2_with (go_at_call 39; refine (areWords2_yes _ x y _ (by simp) (by simp [go_sem]) (by simp [go_sem]) H.out.1 H.out.2).mono ?_; rintro e w1 ⟨rfl, b1⟩)
    have B1 := (Below.new w _).then b1
    clear b1
    go_loopw [6] (fun v wr => ∃ j a g : Nat, v = .int .i64 a ∧ wr = w1.iter y j ∧ a ≤ x.size ∧ scatFrom x y g j a = scatN x y ∧ y.size ≤ j + g) (fun _ wr => y.size - wr.iterPos w1.heap.size)
    case atStart => exact ⟨0, 0, y.size, rfl, rfl, Nat.zero_le _, rfl, by omega⟩
    case round =>
      obtain ⟨j, a, g, rfl, rfl, ha, hc, hg⟩ := hrel
      have HC := Lib.hid hc
      clear hc
      by_cases hp : j < y.size
      · have hlo := H.out.2.lo j hp
        have hhi := H.out.2.hi j hp
        have hnx : ∀ ty, (Instr.next (.pointer (some ⟨w1.heap.size, 0, none⟩)) true ty).run Try.prog (w1.iter y j) = _ := fun ty => run_next_ascii w1 y j ty hp (by omega)
        obtain ⟨g, rfl⟩ : ∃ k, g = k + 1 := ⟨g - 1, by omega⟩
        by_cases h2 : a < x.size
        · have hlo2 := H.out.1.lo a h2
          have hhi2 := H.out.1.hi a h2
          by_cases he : x[a]'h2 = y[j]'hp
          · have hd : (((x[a]'h2).toNat : Int) == ((y[j]'hp).toNat : Int)) = true := by rw [he]; simp
            have HE := Lib.hid (scat_hit (f := g) hp h2 he)
            clear he
            go_wp2
            go_roundw
            case rel => exact ⟨j + 1, a + 1, g, by go_num, rfl, by omega, by rw [← HC.out, HE.out], by omega⟩
            case measure => simp; omega
          · have hd : (((x[a]'h2).toNat : Int) == ((y[j]'hp).toNat : Int)) = false := by
              rw [beq_eq_false_iff_ne]; intro h; exact he (byte_eq_iff.1 h)
            have HE := Lib.hid (scat_miss (f := g) hp h2 he)
            clear he
            go_wp2
            go_roundw
            case rel => exact ⟨j + 1, a, g, rfl, rfl, by omega, by rw [← HC.out, HE.out], by omega⟩
            case measure => simp; omega
        · have hd : decide ((a : Int) < (x.size : Int)) = false := by simp; omega
          have HE := Lib.hid (scat_over (f := g) hp h2)
          go_wp2
          go_roundw
          case rel => exact ⟨j + 1, a, g, rfl, rfl, by omega, by rw [← HC.out, HE.out], by omega⟩
          case measure => simp; omega
      · have hnx : ∀ ty, (Instr.next (.pointer (some ⟨w1.heap.size, 0, none⟩)) true ty).run Try.prog (w1.iter y j) = _ := fun ty => run_next_end w1 y j ty hp
        have hk : scatN x y = a := by rw [← HC.out, scat_end hp]
        have HK := Lib.hid hk
        clear hk
        go_wp2
        go_ret2
        exact ⟨ret_bi (by rw [HK.out]; simpa using beq_nat a x.size), B1.then (Below.new _ _)⟩
  · rw [scatR_bad h]
    have H := Lib.hid h
    clear h
    go_enter Try.func17, Try.ntmps17
    go_wp2_with (go_at_call 39; refine (areWords2_no _ x y _ (by simp) (by simp [go_sem]) (by simp [go_sem]) sx sy H.out).mono ?_; rintro e w1 ⟨rfl, b1⟩)
    go_ret2
    exact ⟨rfl, (Below.new _ _).then b1⟩

set_option maxRecDepth 100000 in
set_option maxHeartbeats 1000000 in
theorem spec_IsScattered (x y : ByteArray) (w : World) (sx : x.size ≤ maxLen) (sy : y.size ≤ maxLen) :
    Calls Try.prog 16 #[.string x, .string y] w fun e w' => e = .returned (.tuple #[.bool (scatR x y).1, .int .i64 (scatR x y).2]) ∧ Below w.heap.size w w' := by
  by_cases h1 : IsW x
  · by_cases h2 : IsW y
    · have s1 := h1.size
      have s2 := h2.size
      rw [scatR_ok ⟨h1, h2⟩]
      have H1 := Lib.hid h1
      have H2 := Lib.hid h2
      clear h1 h2
      go_enter Try.func16, Try.ntmps16
      go_wp2_with fail
      refine (l01Is_yes x _ H1.out).mono ?_
      rintro e w1 ⟨rfl, b1⟩
      go_wp2_with fail
      refine (l01Is_yes y _ H2.out).mono ?_
      rintro e w2 ⟨rfl, b2⟩
      have B2 := b1.then b2
      clear b1 b2
      go_wp2_with fail
      go_loopw [6, 7] (fun v i wr => ∃ j a g : Nat, v = .int .i64 a ∧ i = .int .i64 j ∧ j ≤ y.size ∧ Below w.heap.size w wr ∧ a ≤ x.size ∧ scatFrom x y g j a = scatN x y ∧ y.size ≤ j + g) (fun _ i _ => y.size - (intOf i).toNat)
      case atStart => exact ⟨0, 0, y.size, rfl, rfl, Nat.zero_le _, B2, Nat.zero_le _, rfl, by omega⟩
      case round =>
        obtain ⟨j, a, g, rfl, rfl, hj, hB, ha, hc, hg⟩ := hrel
        have HC := Lib.hid hc
        clear hc B2
        by_cases hp : j < y.size
        · obtain ⟨g, rfl⟩ : ∃ k, g = k + 1 := ⟨g - 1, by omega⟩
          by_cases h2 : a < x.size
          · by_cases he : x[a]'h2 = y[j]'hp
            · have hd : (((y[j]'hp).toNat : Int) == ((x[a]'h2).toNat : Int)) = true := by rw [he]; simp
              have HE := Lib.hid (scat_hit (f := g) hp h2 he)
              clear he
              go_wp2
              go_quiet (fail)
              go_wp2
              go_roundw
              case rel => exact ⟨j + 1, a + 1, g, by go_num, by go_num, by omega, hB.drewN _, by omega, by rw [← HC.out, HE.out], by omega⟩
              case measure => simp [intOf]; omega
            · have hd : (((y[j]'hp).toNat : Int) == ((x[a]'h2).toNat : Int)) = false := by
                rw [beq_eq_false_iff_ne]; intro h; exact he (byte_eq_iff.1 h.symm)
              have HE := Lib.hid (scat_miss (f := g) hp h2 he)
              clear he
              go_wp2
              go_quiet (fail)
              go_wp2
              go_roundw
              case rel => exact ⟨j + 1, a, g, rfl, by go_num, by omega, hB.drewN _, by omega, by rw [← HC.out, HE.out], by omega⟩
              case measure => simp [intOf]; omega
          · have hk : scatN x y = a := by rw [← HC.out, scat_full h2]
            have HK := Lib.hid hk
            have hd : decide ((a : Int) < (x.size : Int)) = false := by simp; omega
            clear hk
            go_wp2
            go_ret2
            exact ⟨ret_bi (by rw [HK.out]; simpa using beq_nat a x.size), hB⟩
        · have hk : scatN x y = a := by rw [← HC.out, scat_end hp]
          have HK := Lib.hid hk
          have hd : decide ((j : Int) < (y.size : Int)) = false := by simp; omega
          clear hk
          go_wp2
          go_ret2
          exact ⟨ret_bi (by rw [HK.out]; simpa using beq_nat a x.size), hB⟩
    · rw [scatR_bad (fun h => h2 h.2)]
      have H1 := Lib.hid h1
      have H2 := Lib.hid h2
      clear h1 h2
      go_enter Try.func16, Try.ntmps16
      go_wp2_with fail
      refine (l01Is_yes x _ H1.out).mono ?_
      rintro e w1 ⟨rfl, b1⟩
      go_wp2_with fail
      refine (l01Is_no y _ sy H2.out).mono ?_
      rintro e w2 ⟨rfl, b2⟩
      go_wp2_with fail
      go_ret2
      exact ⟨rfl, b1.then b2⟩
  · rw [scatR_bad (fun h => h1 h.1)]
    have H1 := Lib.hid h1
    clear h1
    go_enter Try.func16, Try.ntmps16
    go_wp2_with (go_at_call 37; refine (l01Is_no x _ sx H1.out).mono ?_; rintro e w1 ⟨rfl, b1⟩)
    go_ret2
    exact ⟨rfl, b1⟩

end Go.Proofs.Ytedpbfddoobnnab
