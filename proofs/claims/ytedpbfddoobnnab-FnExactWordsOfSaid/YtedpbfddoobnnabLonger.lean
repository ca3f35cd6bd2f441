/- Words with one letter more. -/
import Derived.Test.YtedpbfddoobnnabStrs
import Derived.Test.YtedpbfddoobnnabWordOfS
import Derived.Test.YtedpbfddoobnnabWordsPlain
namespace Go.Proofs.Ytedpbfddoobnnab
set_option linter.unusedVariables false
set_option linter.unusedSimpArgs false
open Go.RowKit

theorem ownS_snoc {w : World} {B : Nat} {v : Value} {L : List ByteArray} {s : ByteArray} (h : w.ownsRow B 9 1 v (L.length + 1) (L.map Value.string ++ [Value.string s])) : OwnS w B v (L ++ [s]) := by
  unfold OwnS
  rw [List.length_append, List.map_append]
  exact h

set_option maxRecDepth 100000 in
set_option maxHeartbeats 4000000 in
theorem longer_any (B : Nat) (v : Value) (L : List ByteArray) (k : Nat) (w : World) (h : OwnS w B v L) (hl : L.length ≤ 256) (hk : k ≤ 5) (hs : ∀ s ∈ L, s.size ≤ 60) :
    Calls Try.prog 45 #[v, .int .i64 (k : Int)] w fun e w' => ∃ v', e = .returned v' ∧ OwnS w' w.heap.size v' (nextW k L) ∧ Below w.heap.size w w' := by
  obtain ⟨i0, hi, hz0, hz1, hz2⟩ := info_parts infoStr
  by_cases h0 : L = []
  · subst h0
    obtain ⟨a1, c1, rfl⟩ := h.empty
    clear h
    go_enter Try.func45, Try.ntmps45
    go_wp2
    refine wp_loop_rounds 1 ?_
    rw [rounds_succ]
    go_wp2
    go_ret
    exact ⟨_, rfl, OwnS.nil _ _, Below.refl _ _⟩
  · have hn : 0 < L.length := List.length_pos_iff.2 h0
    obtain ⟨g, cp, rfl, _, hg, hc, _, cell, _⟩ := h.row hn
    have C := Lib.hid cell
    have S := Lib.hid hs
    clear h cell h0 hs
    go_enter Try.func45, Try.ntmps45
    go_wp2
    go_loopw [5, 11] (fun v q wr => ∃ i : Nat, i ≤ L.length ∧ q = .int .i64 i ∧ OwnS wr w.heap.size v (nextW k (L.take i)) ∧ Below w.heap.size w wr) (fun _ q _ => L.length - (intOf q).toNat)
    case atStart => exact ⟨0, Nat.zero_le _, rfl, by simpa [nextW] using OwnS.nil _ _, Below.refl _ _⟩
    case round =>
      obtain ⟨i, hil, rfl, hown, hB⟩ := hrel
      obtain ⟨wo, rfl⟩ : ∃ wo : World, wo = wr := ⟨_, rfl⟩
      by_cases hp : i < L.length
      · have k1 : wo.cell? ⟨g, i, none⟩ = some (.string (L[i]'hp)) := by rw [(bcell hB).1 g i hg]; exact C.out i hp
        have hsz := S.out (L[i]'hp) (List.getElem_mem hp)
        have hnt := nextW_take k L i hp
        have hlen : (nextW k (L.take i)).length = i * k := by rw [nextW_len, List.length_take, Nat.min_eq_left (by omega)]
        have hmul : i * k ≤ 256 * 5 := Nat.mul_le_mul (by omega) hk
        have HNT := Lib.hid hnt
        have K1 := Lib.hid k1
        clear hnt k1
        generalize hzz : L[i]'hp = s at *
        generalize hP : nextW k (L.take i) = P at *
        have hPl : P.length ≤ 1280 := by omega
        have HP := Lib.hid hP
        clear hzz hP hlen hmul
        have k1 := K1.out
        have hic : i < cp := by omega
        go_wp2_with fail
        go_loopw [5, 16] (fun v q wr => ∃ c : Nat, c ≤ k ∧ q = .int .i64 c ∧ OwnS wr w.heap.size v (P ++ rowW s c) ∧ Below w.heap.size w wr) (fun _ q _ => k - (intOf q).toNat)
        case atStart => exact ⟨0, Nat.zero_le _, rfl, by rw [rowW_zero, List.append_nil]; exact hown, hB⟩
        case round =>
          clear hown hB
          obtain ⟨c, hck, rfl, hown, hB⟩ := hrel
          by_cases hcl : c < k
          · have hrs := rowW_succ s c
            have hrl : (P ++ rowW s c).length = P.length + c := by rw [List.length_append, rowW_len]
            have HRS : Hid ((P ++ rowW s c) ++ [s ++ lt1 c] = P ++ rowW s (c + 1)) := Lib.hid (by rw [hrs, List.append_assoc])
            have henc := encode_letter c (by omega)
            have HEN := Lib.hid henc
            have e1 := lt1_size c
            generalize lt1 c = t at *
            have e2 : t.size ≤ 1 := by omega
            have hBz := hB.size
            generalize hQ : P ++ rowW s c = Q at *
            have hQl : Q.length ≤ 1290 := by omega
            clear hrs henc e1 hQ hrl
            go_wp2_with fail
            refine (letterOf_any c _ (by omega) (by omega)).mono ?_
            rintro e w2 ⟨rfl, rfl⟩
            have hcv : (convert 21 9 (.int .i32 (97 + (c : Int)))).run Try.prog wr = .ok (.string t) wr := by
              rw [run_convert_int_string wr _ _ _ _ (by rw [Try.underlying21]; rfl) Try.underlying9, HEN.out]
            go_wp2_with (at_builtin; refine wpList_append_own _ rfl _ _ 29 rfl w.heap.size 9 i0 (.string ⟨#[]⟩) 1 16 Try.underlying29 hi hz0 hz1 hz2 rfl (by decide) _ _ _ rfl (World.ownsRow.alloc hown _) ⟨_, 0, none⟩ 1 1 [.string (s ++ t)] rfl rfl (cell_new _ _ _) (by intro u hu; simp at hu; subst hu; rfl) (by unfold maxLen; omega) (by omega) (by simp; omega) ?_; intro v' w3 hown' hgrow _)
            have hown3 := ownS_snoc hown'
            rw [HRS.out] at hown3
            have HO := Lib.hid hown3
            have hB3 : Below w.heap.size w w3 := (hB.alloc hBz _).grown hgrow (by simp; omega) (fun q hq => (OwnS.lt hown q hq).1)
            clear hown' hown3 hcv
            go_roundw
            case rel => exact ⟨c + 1, by omega, by go_num, HO.out, hB3⟩
            case measure => simp [intOf] <;> omega
          · obtain rfl : c = k := by omega
            have hown2 := hown
            rw [← HNT.out] at hown2
            have HO := Lib.hid hown2
            clear hown hown2
            go_wp2
            go_roundw
            case rel => exact ⟨i + 1, by omega, by go_num, HO.out, hB⟩
            case measure => simp [intOf] <;> omega
      · have hown2 := hown
        rw [List.take_of_length_le (by omega)] at hown2
        have HO := Lib.hid hown2
        clear hown hown2
        go_wp2
        go_ret
        exact ⟨_, rfl, HO.out, hB⟩

end Go.Proofs.Ytedpbfddoobnnab
