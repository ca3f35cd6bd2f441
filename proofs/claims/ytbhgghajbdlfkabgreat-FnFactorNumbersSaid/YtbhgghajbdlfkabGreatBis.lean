/- Bispecial factors: the model. -/
import Derived.Test.YtbhgghajbdlfkabGreatSpR
namespace Go.Proofs.YtbhgghajbdlfkabGreat
set_option linter.unusedVariables false
set_option linter.unusedSimpArgs false
open Go.RowKit

set_option maxRecDepth 100000 in
set_option maxHeartbeats 4000000 in
theorem spec_Bispecial_ok (x : ByteArray) (m : Nat) (w : World) (h : IsW x) (hm : m ≤ 60) (sx : x.size ≤ maxLen) :
    Calls Tryz.prog 9 #[.string x, .int .i64 (m : Int)] w (RetS (filtK x [true, false] (facs x m)) 0 w) := by
  obtain ⟨i0, hi0, hz0, hz1, hz2⟩ := info_parts infoStr
  have hmo : Tryz.prog.follows .mixedOrders = true := by kernel_rfl
  have hx := h.size
  have HT := Lib.hid fun w => l05Code_any x (m : Int) w sx
  rw [code5_ok h (by omega)] at HT
  have HR := Lib.hid fun w => l05SpecialR_any x m w hx hm
  have HL := Lib.hid fun w => l05SpecialL_any x m w hx hm
  rw [← spF_eq h m true] at HR
  rw [← spF_eq h m false] at HL
  have HE := Lib.hid (bis_eq h m)
  have hRl : (spF x m true).length ≤ 61 := by
    have h1 := List.length_filter_le (spB x true) (facs x m)
    have h2 := facs_len x m
    unfold spF; omega
  have hLl : (spF x m false).length ≤ 61 := by
    have h1 := List.length_filter_le (spB x false) (facs x m)
    have h2 := facs_len x m
    unfold spF; omega
  have HLA : Hid (Asc (spF x m false)) := Lib.hid (List.Pairwise.filter _ (facs_asc x m))
  rw [← HE.out]
  generalize spF x m true = R at *
  generalize spF x m false = L at *
  clear h HE
  go_enter Tryz.func9, Tryz.ntmps9
  go_wp2_with fail
  refine (HT.out _).mono ?_
  rintro e w1 ⟨rfl, b1⟩
  go_wp2_with fail
  refine (HR.out _).mono ?_
  rintro e w2 ⟨v2, rfl, o2, b2⟩
  go_wp2_with fail
  refine (HL.out _).mono ?_
  rintro e w3 ⟨v3, rfl, o3, b3⟩
  have o2 := OwnS.below o2 b3
  obtain ⟨aR, cR, rfl, kR⟩ := OwnS.look5 o2
  obtain ⟨aL, cL, rfl, kL⟩ := OwnS.look5 o3
  have KR := Lib.hid kR
  have KL := Lib.hid kL
  have B3 := (b1.then b2).then b3
  have HB3 := Lib.hid B3
  have hb3 := B3.size
  clear o2 o3 kR kL b1 b2 b3 B3
  go_wp2
  go_loopg [9, 10] R.length (fun gk v i wr => ∃ q : Nat, q + gk = R.length ∧ i = .int .i64 (q : Int) ∧ OwnS wr w3.heap.size v (bisC R L q 0) ∧ Below w3.heap.size w3 wr)
  case atStart => exact ⟨0, by omega, rfl, by rw [bisC_zero]; exact World.ownsRow_lit w3 #[] 0 (Nat.le_refl _) (by decide) (by simp), Below.new _ _⟩
  case round =>
    obtain ⟨i, hi, rfl, hown, hB⟩ := hrel
    by_cases hp : i < R.length
    · obtain ⟨gq, rfl⟩ : ∃ gq, gk = gq + 1 := ⟨gk - 1, by omega⟩
      have HI := Lib.hid hi
      obtain ⟨gR, rfl, hgR, hcR, hR0⟩ := KR.out i hp
      have HR0 := Lib.hid hR0
      have gR5 := Lib.hid (getD_lt5 hp)
      have HEND := Lib.hid (bisC_end R L i hp)
      have hpi : (i : Int) < (R.length : Int) := by omega
      clear hi hR0
      go_wp2
      go_loopg [9, 11] L.length (fun g2 v j wq => ∃ k : Nat, k + g2 = L.length ∧ j = .int .i64 (k : Int) ∧ OwnS wq w3.heap.size v (bisC R L i k) ∧ Below w3.heap.size w3 wq)
      case atStart => exact ⟨0, by omega, rfl, hown, hB⟩
      case round =>
        clear hown hB
        obtain ⟨k, hk, rfl, hown, hB⟩ := hrel
        have hbz := hB.size
        by_cases hp2 : k < L.length
        · obtain ⟨gr, rfl⟩ : ∃ gr, gk = gr + 1 := ⟨gk - 1, by omega⟩
          have HK := Lib.hid hk
          obtain ⟨gL, rfl, hgL, hcL, hL0⟩ := KL.out k hp2
          have ci := ((bcell hB).1 gR i hgR).trans HR0.out
          have ck := ((bcell hB).1 gL k hgL).trans hL0
          have hln := bisC_len R L i k
          have HC := Lib.hid (fun h => bisC_hit (R := R) (i := i) HLA.out hp2 h)
          have HM := Lib.hid (fun h => bisC_miss R L i k h)
          rw [gR5.out, getD_lt5 hp2] at HC HM
          clear hk hL0
          generalize R[i]'hp = zi at *
          generalize L[k]'hp2 = zk at *
          generalize bisC R L i k = A at *
          have hpj : (k : Int) < (L.length : Int) := by omega
          by_cases he : zk = zi
          · have ht := teq_yes he.symm
            have HC2 := Lib.hid (HC.out he)
            clear he
            go_wp2
            go_quiet (fail)
            have ci2 : (wr.drewN nq).cell? ⟨gR, i, none⟩ = some (.string zi) := ci
            have hown2 : OwnS (wr.drewN nq) w3.heap.size u9 A := hown
            have hB2 : Below w3.heap.size w3 (wr.drewN nq) := hB.drewN nq
            have hbz2 : w3.heap.size ≤ (wr.drewN nq).heap.size := hbz
            clear ci ck hown hB hbz
            generalize wr.drewN nq = wn at *
            have hownR : wn.ownsRow w3.heap.size 9 1 u9 A.length (A.map Value.string) := hown2
            go_wp2_with (at_builtin; refine wpList_append_own _ rfl _ _ 26 rfl w3.heap.size 9 i0 (.string ⟨#[]⟩) 1 16 Tryz.underlying26 hi0 hz0 hz1 hz2 rfl (by decide) _ _ _ rfl (hownR.alloc _) ⟨_, 0, none⟩ 1 1 [.string zi] rfl rfl (cell_new _ _ _) (by intro u hu; simp at hu; subst hu; rfl) (by unfold maxLen; omega) (by omega) (by simp; omega) ?_; intro v' w5 hown' hgrow _)
            have hB5 : Below w3.heap.size w3 w5 := (hB2.alloc hbz2 _).grown hgrow (by simp; omega) (fun q hq => (hownR.lt q hq).1)
            go_roundg gr
            case measure => omega
            case rel =>
              refine ⟨k + 1, by have := HK.out; omega, by go_num, ?_, hB5⟩
              rw [HC2.out]
              unfold OwnS
              rw [List.length_append, List.map_append]
              exact hown'
          · have ht := teq_no (fun e => he e.symm)
            have HM2 := Lib.hid (HM.out he)
            clear he
            go_wp2
            go_quiet (fail)
            go_wp2
            go_roundg gr
            case measure => omega
            case rel => exact ⟨k + 1, by have := HK.out; omega, by go_num, by rw [HM2.out]; exact hown, hB.drewN _⟩
        · obtain rfl : gk = 0 := by omega
          obtain rfl : k = L.length := by omega
          rw [HEND.out] at hown
          have hpj : ¬ ((L.length : Int) < (L.length : Int)) := by omega
          clear hk
          go_wp2
          go_roundg gq
          case measure => omega
          case rel => exact ⟨i + 1, by have := HI.out; omega, by go_num, hown, hB⟩
    · obtain rfl : gk = 0 := by omega
      obtain rfl : i = R.length := by omega
      rw [bisC_all] at hown
      have HO := Lib.hid hown
      have hpi : ¬ ((R.length : Int) < (R.length : Int)) := by omega
      clear hown hi
      go_wp2
      go_ret2
      exact ⟨_, rfl, OwnS.base HO.out hb3, HB3.out.then hB⟩

set_option maxRecDepth 100000 in
theorem spec_Bispecial (x : ByteArray) (m : Int) (w : World) (sx : x.size ≤ maxLen) (wm : (Lit.int .i64 m).wf = true) :
    Calls Tryz.prog 9 #[.string x, .int .i64 m] w (RetS (bsR x m).1 (bsR x m).2 w) := by
  have HT := Lib.hid fun w => l05Code_any x m w sx
  unfold bsR
  by_cases h : IsW x
  · by_cases ho : m < 0 ∨ 60 < m
    · rw [factorsR_out h ho]
      rw [code5_out h ho] at HT
      rw [filtK_nil]
      clear h ho
      go_enter Tryz.func9, Tryz.ntmps9
      go_wp2_with fail
      refine (HT.out _).mono ?_
      rintro e w1 ⟨rfl, b1⟩
      go_wp2_with fail
      go_ret2
      exact ⟨_, rfl, OwnS.nil _ _, b1⟩
    · obtain ⟨n, rfl⟩ := Int.eq_ofNat_of_zero_le (show 0 ≤ m by omega)
      rw [factorsR_ok h (by omega)]
      exact spec_Bispecial_ok x n w h (by omega) sx
  · rw [factorsR_bad h]
    rw [code5_bad h] at HT
    rw [filtK_nil]
    clear h
    go_enter Tryz.func9, Tryz.ntmps9
    go_wp2_with fail
    refine (HT.out _).mono ?_
    rintro e w1 ⟨rfl, b1⟩
    go_wp2_with fail
    go_ret2
    exact ⟨_, rfl, OwnS.nil _ _, b1⟩

end Go.Proofs.YtbhgghajbdlfkabGreat
