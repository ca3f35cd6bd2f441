/- All words of a length: the model's. -/
import Derived.Test.YtedpbfddoobnnabLonger
import Derived.Deep.AppendLies
import Derived.Deep.RegionLaw
import Derived.Deep.RegionHeld3
namespace Go.Proofs.Ytedpbfddoobnnab
set_option linter.unusedVariables false
set_option linter.unusedSimpArgs false
open Go.RowKit

theorem pow_le_of {k m j : Nat} (hk : 1 ≤ k) (h : k ^ m ≤ 256) (hj : j ≤ m) : k ^ j ≤ 256 := Nat.le_trans (Nat.pow_le_pow_right hk hj) h

set_option maxRecDepth 100000 in
set_option maxHeartbeats 8000000 in
theorem l01All_any (m k : Nat) (w : World) (hm : m ≤ 60) (hk1 : 1 ≤ k) (hk5 : k ≤ 5) (hp : k ^ m ≤ 256) :
    Calls Try.prog 44 #[.int .i64 (m : Int), .int .i64 (k : Int)] w fun e w' => ∃ v', e = .returned v' ∧ OwnS w' w.heap.size v' (allW k m) ∧ Below w.heap.size w w' := by
  obtain ⟨i0, hi, hz0, hz1, hz2⟩ := info_parts infoStr
  have HP := Lib.hid hp
  clear hp
  go_enter Try.func44, Try.ntmps44
  go_wp2
  go_loopw [0, 5] (fun q v wr => ∃ j : Nat, j ≤ m ∧ q = .int .i64 ((m : Int) - j) ∧ OwnS wr w.heap.size v (allW k j) ∧ Below w.heap.size w wr) (fun q _ _ => (intOf q).toNat)
  case atStart =>
    refine ⟨0, Nat.zero_le _, by simp, ?_, Below.new _ _⟩
    exact World.ownsRow_lit w #[.string ⟨#[]⟩] 1 (Nat.le_refl _) (by decide) (by simp)
  case round =>
    obtain ⟨j, hj, rfl, hown, hB⟩ := hrel
    obtain ⟨wo, rfl⟩ : ∃ wo : World, wo = wr := ⟨_, rfl⟩
    by_cases hjm : j < m
    · have hle := pow_le_of hk1 HP.out hj
      have hL := allW_len k j
      have hsz := allW_size k j
      have HS : Hid (∀ s ∈ allW k j, s.size ≤ 60) := Lib.hid fun s h => by have := hsz s h; omega
      have HN : Hid (nextW k (allW k j) = allW k (j + 1)) := Lib.hid rfl
      generalize hA : allW k j = L at *
      have hlen : L.length ≤ 256 := by omega
      have hlen0 : 0 < L.length := by rw [hL]; exact Nat.pow_pos (by omega)
      obtain ⟨g, cp, hv, hgB, hg, hcp, _, cell, _⟩ := OwnS.row hown hlen0
      subst hv
      have C := Lib.hid cell
      have hBz := hB.size
      clear hle hL hsz hA hown cell
      go_wp2_with fail
      have hstart : OwnS (wo.alloc (.cells #[] 9)) wo.heap.size (.slice (some ⟨wo.heap.size, 0, none⟩) 0 0) (nextW k (L.take 0)) := by
        simp only [List.take_zero, nextW, List.flatMap_nil]
        exact World.ownsRow_lit wo #[] 0 (Nat.le_refl _) (by decide) (by simp)
      go_loopw [6, 7] (fun v q wr => ∃ i : Nat, i ≤ L.length ∧ q = .int .i64 i ∧ OwnS wr wo.heap.size v (nextW k (L.take i)) ∧ Below wo.heap.size wo wr) (fun _ q _ => L.length - (intOf q).toNat)
      case atStart => exact ⟨0, Nat.zero_le _, rfl, hstart, Below.new _ _⟩
      case round =>
        clear hstart
        obtain ⟨i, hil, rfl, hown, hB2⟩ := hrel
        obtain ⟨wp, rfl⟩ : ∃ wp : World, wp = wr := ⟨_, rfl⟩
        by_cases hp : i < L.length
        · have hs60 := HS.out (L[i]'hp) (List.getElem_mem hp)
          have hnt := nextW_take k L i hp
          have hln : (nextW k (L.take i)).length = i * k := by rw [nextW_len, List.length_take, Nat.min_eq_left (by omega)]
          have hmul : i * k ≤ 256 * 5 := Nat.mul_le_mul (by omega) hk5
          have k0 := C.out i hp
          have HNT := Lib.hid hnt
          have K0 := Lib.hid k0
          clear hnt k0
          generalize hzz : L[i]'hp = s at *
          generalize hP : nextW k (L.take i) = P at *
          have hPl : P.length ≤ 1280 := by omega
          have hic : i < cp := by omega
          clear hzz hP hln hmul
          go_wp2_with fail
          go_loopw [6, 8] (fun v q wr => ∃ c : Nat, c ≤ k ∧ q = .int .i64 c ∧ OwnS wr wo.heap.size v (P ++ rowW s c) ∧ Below wo.heap.size wo wr) (fun _ q _ => k - (intOf q).toNat)
          case atStart => exact ⟨0, Nat.zero_le _, rfl, by rw [rowW_zero, List.append_nil]; exact hown, hB2⟩
          case round =>
            clear hown hB2
            obtain ⟨c, hck, rfl, hown, hB2⟩ := hrel
            by_cases hcl : c < k
            · have hrs := rowW_succ s c
              have hrl : (P ++ rowW s c).length = P.length + c := by rw [List.length_append, rowW_len]
              have HRS : Hid ((P ++ rowW s c) ++ [s ++ lt1 c] = P ++ rowW s (c + 1)) := Lib.hid (by rw [hrs, List.append_assoc])
              have LT := Lib.hid (show (⟨#[letB (c : Int)]⟩ : ByteArray) = lt1 c from rfl)
              have e1 := lt1_size c
              generalize lt1 c = t at *
              have e2 : t.size ≤ 1 := by omega
              have k1 : wr.cell? ⟨g, i, none⟩ = some (.string s) := by rw [(bcell hB2).1 g i hg]; exact K0.out
              have hBz2 := hB2.size
              have hgw : g < wr.heap.size := by omega
              generalize hQ : P ++ rowW s c = Q at *
              have hQl : Q.length ≤ 1290 := by omega
              clear hrs e1 hQ hrl
              go_wp2_with fail
              have hsum : ∀ W, (Op.stringOp .add s t).run Try.prog W = .ok (.string (s ++ t)) W := fun W => run_string_add_sum W s t (by omega)
              have hne : some g ≠ Value.ownBlock u6 := fun e => by have := (OwnS.lt hown g e.symm).1; omega
              go_region_held3 (fun w' => w'.cell? ⟨g, i, none⟩ = some (.string s)) (first | go_keep | (rw [hgrow.cell_far _ (by simp at hb2z ⊢; omega) hne]; simp [*, World.cell?_alloc_some])) (first | (go_at_call 51; refine (l01Letter_any c _ (by omega) (by omega)).mono ?_; rintro e w2 ⟨rfl, b2⟩; rw [LT.out]; have hc2 := (bcell b2).1 g i (by simpa using hgw); have ho2 := OwnS.below (w := wr.drew) hown b2; have hb2z := b2.size) | (refine step_append_lies _ (by rfl) _ _ 29 (by rfl) wo.heap.size 9 i0 (.string ⟨#[]⟩) 1 16 Try.underlying29 hi hz0 hz1 hz2 rfl (by decide) u6 Q.length (Q.map Value.string) (by rfl) (World.ownsRow.alloc ho2 _) ⟨w2.heap.size, 0, none⟩ 1 1 [.string (s ++ t)] (by rfl) (by rfl) (cell_new _ _ _) (by simp [Value.oneCell']) (by omega) (by unfold maxLen; omega) (by omega) (by simp at hb2z ⊢; omega) _ rfl ?_; intro gg cap w1 hown1 hgrow hat hlt))
              have hown3 := ownS_snoc hown1
              rw [HRS.out] at hown3
              have HO := Lib.hid hown3
              have hB3 : Below wo.heap.size wo w1 := (((hB2.drew).trans (b2.mono hBz2)).alloc (by simp at hb2z; omega) _).grown hgrow (by simp at hb2z ⊢; omega) (fun q hq => (OwnS.lt hown q hq).1)
              clear hown1 hown3 hgrow hat
              go_wp2_with fail
              go_roundw
              case rel => exact ⟨c + 1, by omega, by go_num, HO.out, hB3⟩
              case measure => simp [intOf] <;> omega
            · obtain rfl : c = k := by omega
              have hown2 := hown
              rw [← HNT.out] at hown2
              have HO := Lib.hid hown2
              clear hown hown2
              go_wp2
              go_roundw
              case rel => exact ⟨i + 1, by omega, by go_num, HO.out, hB2⟩
              case measure => simp [intOf] <;> omega
        · have hown2 := hown
          rw [List.take_of_length_le (by omega), HN.out] at hown2
          have HO := Lib.hid (OwnS.base hown2 hBz)
          have hB3 := hB.then hB2
          clear hown hown2
          go_wp2
          go_roundw
          case rel => exact ⟨j + 1, by omega, by go_num, HO.out, hB3⟩
          case measure => simp [intOf]; omega
    · have hE : Hid (j = m) := Lib.hid (by omega)
      have HO := Lib.hid hown
      clear hown
      go_wp2
      go_ret
      exact ⟨_, rfl, by rw [← hE.out]; exact HO.out, hB⟩

end Go.Proofs.Ytedpbfddoobnnab
