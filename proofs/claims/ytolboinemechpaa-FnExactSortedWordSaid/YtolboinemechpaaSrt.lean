/- The first word that is alike with a word: the program and the model. -/
import Derived.Test.YtolboinemechpaaSrtPlain
import Derived.Test.YtolboinemechpaaSortI
import Derived.Test.YtolboinemechpaaAb
import Derived.Test.YtolboinemechpaaNw
import Derived.Test.YtolboinemechpaaWordOf
import Derived.Test.YtolboinemechpaaLetter
namespace Go.Proofs.Ytolboinemechpaa
set_option linter.unusedVariables false
set_option linter.unusedSimpArgs false
open Go.RowKit

set_option maxRecDepth 100000 in
theorem impl_SortedWord (x : ByteArray) (w : World) (sx : x.size ≤ maxLen) :
    Calls Try.prog 18 #[.string x] w fun e w' => e = .returned (.tuple #[.string (sortedR x).1, .int .i64 (sortedR x).2]) ∧ Below w.heap.size w w' := by
  by_cases h : IsW x
  · rw [sortedR_ok h]
    have hx := h.size
    have H := Lib.hid h
    have HL : Hid ((numsR x).length ≤ 60) := Lib.hid (by rw [numsR_len]; exact hx)
    have WO : Hid (∀ B v W, OwnI W B v (sorted (numsR x)) → Calls Try.prog 58 #[v] W fun e w' => e = .returned (.string (bt (srtK (ct (bl x)) 5))) ∧ Below W.heap.size W w') := Lib.hid fun B v W o => by
      rw [sorted_nums h] at o
      have := wordOf_any B v _ W o (by rw [numsK_len h]; exact hx) (numsK_ok _)
      rw [show wordB (numsK (ct (bl x)) 5) = bt (srtK (ct (bl x)) 5) by unfold wordB; rw [wordL_numsK]; rfl] at this
      exact this
    generalize bt (srtK (ct (bl x)) 5) = z at *
    clear h
    go_enter Try.func18, Try.ntmps18
    go_wp2_with fail
    refine (isWord_yes x _ H.out).mono ?_
    rintro e w1 ⟨rfl, b1⟩
    go_wp2_with fail
    refine (numbersOf_any x _ H.out).mono ?_
    rintro e w2 ⟨v, rfl, o2, b2⟩
    go_wp2_with fail
    refine (sortI _ _ _ _ o2 (by have := HL.out; omega)).mono ?_
    rintro e w3 ⟨rfl, o3, g3⟩
    have b3 : Below w1.heap.size w1 w3 := b2.grown g3 b2.size (fun q hq => (OwnI.lt o2 q hq).1)
    go_wp2_with fail
    refine (WO.out _ _ _ o3).mono ?_
    rintro e w4 ⟨rfl, b4⟩
    go_wp2_with fail
    go_ret2
    exact ⟨rfl, (b1.then b3).then b4⟩
  · rw [sortedR_bad h]
    have H := Lib.hid h
    clear h
    go_enter Try.func18, Try.ntmps18
    go_wp2_with fail
    refine (isWord_not x _ sx H.out).mono ?_
    rintro e w1 ⟨rfl, b1⟩
    go_wp2_with fail
    go_ret2
    exact ⟨rfl, b1⟩

set_option maxRecDepth 100000 in
set_option maxHeartbeats 1000000 in
theorem l07Sorted_any (B : Nat) (v : Value) (x : ByteArray) (w : World) (hw : IsW x) (h : OwnI w B v (clv (bl x))) :
    Calls Try.prog 54 #[v] w fun e w' => e = .returned (.string (bt (srtK (ct (bl x)) 5))) ∧ Below w.heap.size w w' := by
  obtain ⟨g0, cap, rfl, hg0, hcap, CL⟩ := own_five h rfl (clv_get (bl x))
  have hx := hw.size
  have HLen : Hid (∀ k c, k < 5 → c ≤ ct (bl x) k → (srtC (ct (bl x)) k c).length ≤ x.size) := Lib.hid fun k c hk hc => srtC_len hw hk hc
  have HLF : Hid (∀ k, k < 5 → ct (bl x) k ≤ 60) := Lib.hid fun k hk => Nat.le_trans (ct_le _ _) (by rw [bl_len]; exact hx)
  obtain ⟨f, hf⟩ : ∃ f, ct (bl x) = f := ⟨_, rfl⟩
  rw [hf] at HLen CL HLF ⊢
  obtain ⟨R, hR⟩ : ∃ R, bt (srtK f 5) = R := ⟨_, rfl⟩
  rw [hR]
  have HR := Lib.hid hR
  clear hf h hw hR
  go_enter Try.func54, Try.ntmps54
  go_wp2
  go_loopg [3, 4] 5 (fun gk s3 s4 wr => ∃ (k : Nat) (z : ByteArray), k + gk = 5 ∧ s3 = .string z ∧ s4 = .int .i64 (k : Int) ∧ Hid (z = bt (srtK f k)) ∧ Below w.heap.size w wr)
  case atStart => exact ⟨0, _, rfl, rfl, rfl, Lib.hid rfl, Below.refl _ _⟩
  case round =>
    obtain ⟨k, z, hg, rfl, rfl, HZ, hB⟩ := hrel
    by_cases hk : k < 5
    · obtain ⟨g, rfl⟩ : ∃ g, gk = g + 1 := ⟨gk - 1, by omega⟩
      obtain ⟨q, hq⟩ : ∃ q, f k = q := ⟨_, rfl⟩
      have kc : wr.cell? ⟨g0, k, none⟩ = some (.int .i64 (q : Int)) := by rw [(bcell hB).1 g0 k hg0, CL.out k hk, hq]
      have hq60 : q ≤ 60 := by rw [← hq]; exact HLF.out k hk
      have HQ := Lib.hid hq
      have hkc : k < cap := by omega
      have HZ0 : Hid (z = bt (srtC f k 0)) := Lib.hid (by rw [srtC_zero]; exact HZ.out)
      have hkd : decide ((k : Int) < 5) = true := by simp; omega
      clear hq HZ
      go_wp2
      go_loopg [3, 5] q (fun gk s3 s5 wr => ∃ (c : Nat) (z : ByteArray), c + gk = q ∧ s3 = .string z ∧ s5 = .int .i64 (gk : Int) ∧ Hid (z = bt (srtC f k c)) ∧ Below w.heap.size w wr)
      case atStart => exact ⟨0, z, by omega, rfl, rfl, HZ0, hB⟩
      case round =>
        clear HZ0 hB kc
        obtain ⟨c, z, hg2, rfl, rfl, HZ, hB⟩ := hrel
        by_cases hc : c < q
        · obtain ⟨g2, rfl⟩ : ∃ g2, gk = g2 + 1 := ⟨gk - 1, by omega⟩
          have hzl : z.size ≤ 60 := by
            rw [HZ.out, bt_size]
            exact Nat.le_trans (HLen.out k c hk (by rw [HQ.out]; omega)) hx
          have HN : Hid (z ++ ⟨#[letB (k : Int)]⟩ = bt (srtC f k (c + 1))) := Lib.hid (by rw [HZ.out, srtC_succ, letB_letr, bt_push])
          have hgi : (0 : Int) < (g2 : Int) + 1 := by omega
          have hsum : ∀ W, (Op.stringOp .add z ⟨#[letB (k : Int)]⟩).run Try.prog W = .ok (.string (z ++ ⟨#[letB (k : Int)]⟩)) W := fun W => run_string_add_sum W _ _ (by have h1 : (⟨#[letB (k : Int)]⟩ : ByteArray).size = 1 := rfl; omega)
          clear HZ
          go_wp2_with fail
          refine (l01Letter_any (k : Int) _ (by omega) (by omega)).mono ?_
          rintro e w1 ⟨rfl, b1⟩
          have hB1 := hB.then b1
          generalize z ++ ⟨#[letB (k : Int)]⟩ = y at *
          go_wp2_with fail
          go_roundg g2
          case measure => omega
          case rel => exact ⟨c + 1, y, by omega, rfl, by go_num, HN, hB1⟩
        · obtain rfl : gk = 0 := by omega
          obtain rfl : c = q := by omega
          have HN : Hid (z = bt (srtK f (k + 1))) := Lib.hid (by rw [HZ.out, ← srtC_all, HQ.out])
          clear HZ
          go_wp2
          go_roundg g
          case measure => omega
          case rel => exact ⟨k + 1, z, by omega, rfl, by go_num, HN, hB⟩
    · obtain rfl : gk = 0 := by omega
      obtain rfl : k = 5 := by omega
      have HN : Hid (z = R) := Lib.hid (HZ.out.trans HR.out)
      go_wp2
      go_ret
      exact ⟨by rw [← HN.out]; rfl, hB⟩

set_option maxRecDepth 100000 in
theorem spec_SortedWord (x : ByteArray) (w : World) (sx : x.size ≤ maxLen) :
    Calls Try.prog 17 #[.string x] w fun e w' => e = .returned (.tuple #[.string (sortedR x).1, .int .i64 (sortedR x).2]) ∧ Below w.heap.size w w' := by
  by_cases h : IsW x
  · rw [sortedR_ok h]
    have H := Lib.hid h
    have LS := Lib.hid fun B v W o => l07Sorted_any B v x W h o
    generalize bt (srtK (ct (bl x)) 5) = z at *
    clear h
    go_enter Try.func17, Try.ntmps17
    go_wp2_with fail
    refine (l01Is_yes x _ H.out).mono ?_
    rintro e w1 ⟨rfl, b1⟩
    go_wp2_with fail
    refine (l01Count_ct x _ H.out).mono ?_
    rintro e w2 ⟨v, rfl, o2, b2⟩
    go_wp2_with fail
    refine (LS.out _ _ _ o2).mono ?_
    rintro e w3 ⟨rfl, b3⟩
    go_wp2_with fail
    go_ret2
    exact ⟨rfl, (b1.then b2).then b3⟩
  · rw [sortedR_bad h]
    have H := Lib.hid h
    clear h
    go_enter Try.func17, Try.ntmps17
    go_wp2_with fail
    refine (l01Is_no x _ sx H.out).mono ?_
    rintro e w1 ⟨rfl, b1⟩
    go_wp2_with fail
    go_ret2
    exact ⟨rfl, b1⟩

end Go.Proofs.Ytolboinemechpaa
