/- Directed words: the program and the model. -/
import Derived.Test.YtddfdciohnabbacGreatClo
import Derived.Test.YtddfdciohnabbacGreatWordsPlain
import Derived.Test.YtddfdciohnabbacGreatRich2Plain
import Derived.Test.YtddfdciohnabbacGreatFactor
namespace Go.Proofs.YtddfdciohnabbacGreat
set_option linter.unusedVariables false
set_option linter.unusedSimpArgs false
open Go.RowKit

theorem one_letter (x : ByteArray) (k : Nat) (h : k < x.size) : bl (x.extract k (k + 1)) = [x[k]'h] := by
  rw [bl_extract, show k + 1 - k = 1 by omega, List.drop_eq_getElem_cons (by rw [bl_len]; omega)]
  rfl
theorem encode_at (x : ByteArray) (k : Nat) (h : k < x.size) (h1 : 97 ≤ (x[k]'h).toNat) (h2 : (x[k]'h).toNat ≤ 101) : Utf8.encode ((x[k]'h).toNat : Int) = x.extract k (k + 1) := by
  have e := encode_letter ((x[k]'h).toNat - 97) (by omega)
  rw [show (97 : Int) + (((x[k]'h).toNat - 97 : Nat) : Int) = ((x[k]'h).toNat : Int) by omega] at e
  rw [e]
  refine bl_inj ?_
  have e2 : bl (lt1 ((x[k]'h).toNat - 97)) = [letB (((x[k]'h).toNat - 97 : Nat) : Int)] := rfl
  have e3 := letB_nat (n := (((x[k]'h).toNat - 97 : Nat) : Int)) (by omega) (by omega)
  have e4 : letB (((x[k]'h).toNat - 97 : Nat) : Int) = x[k]'h := UInt8.toNat_inj.1 (by omega)
  rw [one_letter x k h, e2, e4]
theorem isL_snoc {p x : ByteArray} {k : Nat} (hp : IsL p) (hx : IsL x) (hk : k < x.size) : IsL (p ++ x.extract k (k + 1)) := by
  have key : ∀ b ∈ bl (p ++ x.extract k (k + 1)), 97 ≤ b.toNat ∧ b.toNat ≤ 101 := by
    intro b hb
    rw [bl_append, one_letter x k hk, List.mem_append, List.mem_singleton] at hb
    rcases hb with hb | rfl
    · obtain ⟨i, hi, rfl⟩ := List.getElem_of_mem hb
      exact hp i hi
    · exact hx k hk
  intro i hi
  exact key _ (List.getElem_mem (by rw [bl_len]; exact hi))
theorem isL_clo {x : ByteArray} (h : IsL x) : IsL (clo x) := by
  have key : ∀ b ∈ bl (clo x), 97 ≤ b.toNat ∧ b.toNat ≤ 101 := by
    intro b hb
    rw [bl_clo, cloL, List.mem_append, List.mem_reverse] at hb
    have hb2 : b ∈ bl x := by
      rcases hb with hb | hb
      · exact hb
      · exact List.mem_of_mem_take hb
    obtain ⟨i, hi, rfl⟩ := List.getElem_of_mem hb2
    exact h i hi
  intro i hi
  exact key _ (List.getElem_mem (by rw [bl_len]; exact hi))

set_option maxRecDepth 100000 in
set_option maxHeartbeats 2000000 in
theorem impl_DirectedWord (x : ByteArray) (w : World) (sx : x.size ≤ maxLen) :
    Calls Tryz.prog 12 #[.string x] w fun e w' => e = .returned (.tuple #[.string (dirR x).1, .int .i64 (dirR x).2]) ∧ Below w.heap.size w w' := by
  by_cases h : IsW x
  · rw [dirR_ok h]
    have h1 := h.size
    have H := Lib.hid h
    have HR0 : Hid (dirO (dirF x 0 x.size ⟨#[]⟩) = dirO (dirF x 0 x.size ⟨#[]⟩)) := Lib.hid rfl
    clear h
    generalize hr : dirO (dirF x 0 x.size ⟨#[]⟩) = R at HR0 ⊢
    obtain ⟨r1, r2⟩ := R
    have HR : Hid (dirO (dirF x 0 x.size ⟨#[]⟩) = (r1, r2)) := Lib.hid hr
    clear HR0 hr
    go_enter Tryz.func12, Tryz.ntmps12
    go_wp2_with fail
    refine (isWord_yes x _ H.out).mono ?_
    rintro e w1 ⟨rfl, b1⟩
    go_wp2_with fail
    have hw1 := b1.size
    go_loopw [4] (fun v wr => ∃ (k : Nat) (p : ByteArray), k ≤ x.size ∧ p.size ≤ 60 ∧ v = .string p ∧ wr.heap[w1.heap.size]? = some (.stringIter x k) ∧ Below w.heap.size w wr ∧ w1.heap.size < wr.heap.size ∧ Hid (IsL p) ∧ Hid (dirO (dirF x k (x.size - k) p) = (r1, r2)))
      (fun _ wr => x.size - wr.iterPos w1.heap.size)
    case atStart => exact ⟨0, ⟨#[]⟩, Nat.zero_le _, Nat.zero_le _, rfl, World.iter_heap w1 x 0, b1.then (Below.new _ _), by simp [World.iter], Lib.hid fun i hi => absurd hi (Nat.not_lt_zero _), by rw [Nat.sub_zero]; exact HR⟩
    case round =>
      clear b1 HR
      obtain ⟨k, p, hk, hp60, rfl, hit, hB, hsz, HL, HR⟩ := hrel
      by_cases hp : k < x.size
      · have hlo := H.out.lo k hp
        have hhi := H.out.hi k hp
        have hnx : ∀ ty, (Instr.next (.pointer (some ⟨w1.heap.size, 0, none⟩)) true ty).run Tryz.prog wr = _ := fun ty => Lib.run_next_ascii_at wr w1.heap.size x k ty hit hp (by omega)
        have hen := encode_at x k hp hlo hhi
        have HIS := Lib.hid (isL_snoc HL.out H.out.lets hp)
        have hit2 := Lib.iterAt_heap wr w1.heap.size x k (k + 1) hit
        have hB2 := Lib.below_iterAt hB hw1 x (k + 1)
        have hsz2 : w1.heap.size < (wr.iterAt w1.heap.size x (k + 1)).heap.size := by rw [Lib.iterAt_size]; exact hsz
        have HIT := Lib.hid hit
        have HIT2 := Lib.hid hit2
        have hsm : (p ++ x.extract k (k + 1)).size = p.size + 1 := by rw [ByteArray.size_append]; simp; omega
        have hfu : x.size - k = (x.size - (k + 1)) + 1 := by omega
        have HE1 : Hid (60 < (clo (p ++ x.extract k (k + 1))).size → (r1, r2) = (⟨#[]⟩, 3)) := Lib.hid fun hc => by
          rw [← HR.out, hfu, dirF_long hc]; rfl
        have HE2 : Hid (¬ 60 < (clo (p ++ x.extract k (k + 1))).size → dirO (dirF x (k + 1) (x.size - (k + 1)) (clo (p ++ x.extract k (k + 1)))) = (r1, r2)) := Lib.hid fun hc => by
          rw [← HR.out, hfu, dirF_go hc]
        have hsum : ∀ W, (Op.stringOp .add p (x.extract k (k + 1))).run Tryz.prog W = .ok (.string (p ++ x.extract k (k + 1))) W := fun W => run_string_add_sum W _ _ (by simp; omega)
        have hcv : ∀ W : World, (convert 21 9 (.int .i32 ((x[k]'hp).toNat : Int))).run Tryz.prog W = .ok (.string (x.extract k (k + 1))) W := fun W => by
          rw [run_convert_int_string W _ _ _ _ (by rw [Tryz.underlying21]; rfl) Tryz.underlying9, hen]
        clear hit hit2 hen
        generalize hgw : wr.iterAt w1.heap.size x (k + 1) = wi at *
        have HG := Lib.hid hgw
        clear hgw
        generalize x.extract k (k + 1) = t at *
        generalize p ++ t = y at *
        by_cases hc : 60 < (clo y).size
        · have CL := Lib.hid fun w => closeWord_long y w (by omega) hc
          have hre := HE1.out hc
          obtain ⟨rfl, rfl⟩ := Prod.mk.inj hre
          clear hre
          go_wp2_with (go_at_call 33; refine (CL.out _).mono ?_; rintro e w2 ⟨rfl, b2⟩)
          go_ret2
          exact ⟨rfl, hB2.then b2⟩
        · have CL := Lib.hid fun w => closeWord_ok y w HIS.out (by omega) hc
          have HRn := Lib.hid (HE2.out hc)
          have HLn := Lib.hid (isL_clo HIS.out)
          clear HE1 HE2
          generalize clo y = c at *
          go_wp2_with (go_at_call 33; refine (CL.out _).mono ?_; rintro e w2 ⟨rfl, b2⟩)
          have HK : Hid (w2.heap[w1.heap.size]? = some (.stringIter x (k + 1))) := Lib.hid ((b2.block _ hsz2).trans HIT2.out)
          have hsz3 : w1.heap.size < w2.heap.size := Nat.lt_of_lt_of_le hsz2 b2.size
          go_roundw
          case rel => exact ⟨k + 1, c, by omega, by omega, rfl, HK.out, hB2.then b2, hsz3, HLn, HRn⟩
          case measure => simp only [World.iterPos, HK.out, HIT.out]; omega
      · have hnx : ∀ ty, (Instr.next (.pointer (some ⟨w1.heap.size, 0, none⟩)) true ty).run Tryz.prog wr = _ := fun ty => Lib.run_next_end_at wr w1.heap.size x k ty hit hp
        have hre : (r1, r2) = (p, 0) := by rw [← HR.out, show x.size - k = 0 by omega]; rfl
        obtain ⟨rfl, rfl⟩ := Prod.mk.inj hre
        clear hre
        go_wp2
        go_ret2
        exact ⟨rfl, hB⟩
  · rw [dirR_bad h]
    have H := Lib.hid h
    clear h
    go_enter Tryz.func12, Tryz.ntmps12
    go_wp2_with fail
    refine (isWord_not x _ sx H.out).mono ?_
    rintro e w1 ⟨rfl, b1⟩
    go_wp2_with fail
    go_ret2
    exact ⟨rfl, b1⟩

set_option maxRecDepth 100000 in
set_option maxHeartbeats 2000000 in
theorem spec_DirectedWord (x : ByteArray) (w : World) (sx : x.size ≤ maxLen) :
    Calls Tryz.prog 13 #[.string x] w fun e w' => e = .returned (.tuple #[.string (dirR x).1, .int .i64 (dirR x).2]) ∧ Below w.heap.size w w' := by
  by_cases h : IsW x
  · rw [dirR_ok h]
    have h1 := h.size
    have H := Lib.hid h
    clear h
    generalize hr : dirO (dirF x 0 x.size ⟨#[]⟩) = R
    obtain ⟨r1, r2⟩ := R
    have HR : Hid (dirO (dirF x 0 x.size ⟨#[]⟩) = (r1, r2)) := Lib.hid hr
    clear hr
    go_enter Tryz.func13, Tryz.ntmps13
    go_wp2_with fail
    refine (l01Is_yes x _ H.out).mono ?_
    rintro e w1 ⟨rfl, b1⟩
    go_wp2_with fail
    go_loopw [4, 5] (fun v i wr => ∃ (k : Nat) (p : ByteArray), k ≤ x.size ∧ p.size ≤ 60 ∧ v = .string p ∧ i = .int .i64 (k : Int) ∧ Below w.heap.size w wr ∧ Hid (dirO (dirF x k (x.size - k) p) = (r1, r2)))
      (fun _ i _ => x.size + 1 - (intOf i).toNat)
    case atStart => exact ⟨0, ⟨#[]⟩, Nat.zero_le _, Nat.zero_le _, rfl, rfl, b1, by rw [Nat.sub_zero]; exact HR⟩
    case round =>
      clear b1 HR
      obtain ⟨k, p, hk, hp60, rfl, rfl, hB, HR⟩ := hrel
      by_cases hp : k < x.size
      · have hsm : (p ++ x.extract k (k + 1)).size = p.size + 1 := by rw [ByteArray.size_append]; simp; omega
        have hfu : x.size - k = (x.size - (k + 1)) + 1 := by omega
        have HE1 : Hid (60 < (clo (p ++ x.extract k (k + 1))).size → (r1, r2) = (⟨#[]⟩, 3)) := Lib.hid fun hc => by
          rw [← HR.out, hfu, dirF_long hc]; rfl
        have HE2 : Hid (¬ 60 < (clo (p ++ x.extract k (k + 1))).size → dirO (dirF x (k + 1) (x.size - (k + 1)) (clo (p ++ x.extract k (k + 1)))) = (r1, r2)) := Lib.hid fun hc => by
          rw [← HR.out, hfu, dirF_go hc]
        have hsl : ∀ W, (Instr.slice 9 (.string x) (some (.int .i64 (k : Int))) (some (.int .i64 ((k : Int) + 1))) none).run Tryz.prog W = .ok (.string (x.extract k (k + 1))) W := fun W => slice_mid x k 1 (by omega) W
        have hsum : ∀ W, (Op.stringOp .add p (x.extract k (k + 1))).run Tryz.prog W = .ok (.string (p ++ x.extract k (k + 1))) W := fun W => run_string_add_sum W _ _ (by simp; omega)
        generalize x.extract k (k + 1) = t at *
        generalize p ++ t = y at *
        have CL := Lib.hid fun w => l04Closure_any y w (by omega)
        by_cases hc : 60 < (clo y).size
        · have hre := HE1.out hc
          obtain ⟨rfl, rfl⟩ := Prod.mk.inj hre
          clear hre HE1 HE2
          generalize clo y = c at *
          go_wp2_with (go_at_call 34; refine (CL.out _).mono ?_; rintro e w2 ⟨rfl, b2⟩)
          go_ret2
          exact ⟨rfl, hB.then b2⟩
        · have HRn := Lib.hid (HE2.out hc)
          clear HE1 HE2
          generalize clo y = c at *
          go_wp2_with (go_at_call 34; refine (CL.out _).mono ?_; rintro e w2 ⟨rfl, b2⟩)
          go_roundw
          case rel => exact ⟨k + 1, c, by omega, by omega, rfl, by go_num, hB.then b2, HRn⟩
          case measure => simp [intOf]; omega
      · have hre : (r1, r2) = (p, 0) := by rw [← HR.out, show x.size - k = 0 by omega]; rfl
        obtain ⟨rfl, rfl⟩ := Prod.mk.inj hre
        clear hre
        go_wp2
        go_ret2
        exact ⟨rfl, hB⟩
  · rw [dirR_bad h]
    have H := Lib.hid h
    clear h
    go_enter Tryz.func13, Tryz.ntmps13
    go_wp2_with fail
    refine (l01Is_no x _ sx H.out).mono ?_
    rintro e w1 ⟨rfl, b1⟩
    go_wp2_with fail
    go_ret2
    exact ⟨rfl, b1⟩

end Go.Proofs.YtddfdciohnabbacGreat
