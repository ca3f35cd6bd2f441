/- Contracts of the first chapter, put together for the law on factors. -/
import Derived.Test.YtlaefpmfbnldfabWords
import Derived.Test.YtlaefpmfbnldfabScatPlain
import Derived.Test.YtlaefpmfbnldfabInts
import Derived.Test.YtlaefpmfbnldfabCscPlain
import Derived.Lib.OthersKept
import Derived.WalkSmall
import Derived.RegionTactic
import Derived.ChangeAlike
import Derived.IntWalk
import Derived.Test.YtlaefpmfbnldfabWordOfPlain
import Derived.Test.YtlaefpmfbnldfabStrs
import Derived.Test.YtlaefpmfbnldfabWordOfS
import Derived.Deep.AppendLies
import Derived.Deep.RegionLaw
import Derived.Deep.RegionHeld3
import Derived.Test.YtlaefpmfbnldfabNumbers
import Derived.Test.YtlaefpmfbnldfabCountPlain

/-! ### Scat -/
namespace Go.Proofs.Ytlaefpmfbnldfab
set_option linter.unusedVariables false
open Go.RowKit

set_option maxRecDepth 100000 in
set_option maxHeartbeats 1000000 in
theorem impl_IsScattered (x y : ByteArray) (w : World) (sx : x.size ≤ maxLen) (sy : y.size ≤ maxLen) :
    Calls Try.prog 83 #[.string x, .string y] w fun e w' => e = .returned (.tuple #[.bool (scatR x y).1, .int .i64 (scatR x y).2]) ∧ Below w.heap.size w w' := by
  by_cases h : IsW x ∧ IsW y
  · have s1 := h.1.size
    have s2 := h.2.size
    rw [scatR_ok h]
    have H := Lib.hid h
    clear h
    go_enter Try.func83, Try.ntmps83
    go_wp2_with (go_at_call 130; refine (areWords2_yes _ x y _ (by simp) (by simp [go_sem]) (by simp [go_sem]) H.out.1 H.out.2).mono ?_; rintro e w1 ⟨rfl, b1⟩)
    have B1 := (Below.new w _).then b1
    clear b1
    go_loopw [6] (fun v wr => ∃ j a g : Nat, v = .int .i64 a ∧ wr = w1.iter y j ∧ a ≤ x.size ∧ scatFrom x y g j a = scatN x y ∧ y.size ≤ j + g) (fun _ wr => y.size - wr.iterPos w1.heap.size)
    case atStart => exact ⟨0, 0, y.size, rfl, rfl, Nat.zero_le _, rfl, by omega⟩
    case round =>
      obtain ⟨j, a, g, rfl, rfl, ha, hc, hg⟩ := hrel
      have HC := Lib.hid hc
      clear hc
      by_cases hp : j < y.size
      · have hlo := H.out.2.lo j hp
        have hhi := H.out.2.hi j hp
        have hnx : ∀ ty, (Instr.next (.pointer (some ⟨w1.heap.size, 0, none⟩)) true ty).run Try.prog (w1.iter y j) = _ := fun ty => run_next_ascii w1 y j ty hp (by omega)
        obtain ⟨g, rfl⟩ : ∃ k, g = k + 1 := ⟨g - 1, by omega⟩
        by_cases h2 : a < x.size
        · have hlo2 := H.out.1.lo a h2
          have hhi2 := H.out.1.hi a h2
          by_cases he : x[a]'h2 = y[j]'hp
          · have hd : (((x[a]'h2).toNat : Int) == ((y[j]'hp).toNat : Int)) = true := by rw [he]; simp
            have HE := Lib.hid (scat_hit (f := g) hp h2 he)
            clear he
            go_wp2
            go_roundw
            case rel => exact ⟨j + 1, a + 1, g, by go_num, rfl, by omega, by rw [← HC.out, HE.out], by omega⟩
            case measure => simp; omega
          · have hd : (((x[a]'h2).toNat : Int) == ((y[j]'hp).toNat : Int)) = false := by
              rw [beq_eq_false_iff_ne]; intro h; exact he (byte_eq_iff.1 h)
            have HE := Lib.hid (scat_miss (f := g) hp h2 he)
            clear he
            go_wp2
            go_roundw
            case rel => exact ⟨j + 1, a, g, rfl, rfl, by omega, by rw [← HC.out, HE.out], by omega⟩
            case measure => simp; omega
        · have hd : decide ((a : Int) < (x.size : Int)) = false := by simp; omega
          have HE := Lib.hid (scat_over (f := g) hp h2)
          go_wp2
          go_roundw
          case rel => exact ⟨j + 1, a, g, rfl, rfl, by omega, by rw [← HC.out, HE.out], by omega⟩
          case measure => simp; omega
      · have hnx : ∀ ty, (Instr.next (.pointer (some ⟨w1.heap.size, 0, none⟩)) true ty).run Try.prog (w1.iter y j) = _ := fun ty => run_next_end w1 y j ty hp
        have hk : scatN x y = a := by rw [← HC.out, scat_end hp]
        have HK := Lib.hid hk
        clear hk
        go_wp2
        go_ret2
        exact ⟨ret_bi (by rw [HK.out]; simpa using beq_nat a x.size), B1.then (Below.new _ _)⟩
  · rw [scatR_bad h]
    have H := Lib.hid h
    clear h
    go_enter Try.func83, Try.ntmps83
    go_wp2_with (go_at_call 130; refine (areWords2_no _ x y _ (by simp) (by simp [go_sem]) (by simp [go_sem]) sx sy H.out).mono ?_; rintro e w1 ⟨rfl, b1⟩)
    go_ret2
    exact ⟨rfl, (Below.new _ _).then b1⟩

set_option maxRecDepth 100000 in
set_option maxHeartbeats 1000000 in
theorem spec_IsScattered (x y : ByteArray) (w : World) (sx : x.size ≤ maxLen) (sy : y.size ≤ maxLen) :
    Calls Try.prog 87 #[.string x, .string y] w fun e w' => e = .returned (.tuple #[.bool (scatR x y).1, .int .i64 (scatR x y).2]) ∧ Below w.heap.size w w' := by
  by_cases h1 : IsW x
  · by_cases h2 : IsW y
    · have s1 := h1.size
      have s2 := h2.size
      rw [scatR_ok ⟨h1, h2⟩]
      have H1 := Lib.hid h1
      have H2 := Lib.hid h2
      clear h1 h2
      go_enter Try.func87, Try.ntmps87
      go_wp2_with fail
      refine (l01Is_yes x _ H1.out).mono ?_
      rintro e w1 ⟨rfl, b1⟩
      go_wp2_with fail
      refine (l01Is_yes y _ H2.out).mono ?_
      rintro e w2 ⟨rfl, b2⟩
      have B2 := b1.then b2
      clear b1 b2
      go_wp2_with fail
      go_loopw [6, 7] (fun v i wr => ∃ j a g : Nat, v = .int .i64 a ∧ i = .int .i64 j ∧ j ≤ y.size ∧ Below w.heap.size w wr ∧ a ≤ x.size ∧ scatFrom x y g j a = scatN x y ∧ y.size ≤ j + g) (fun _ i _ => y.size - (intOf i).toNat)
      case atStart => exact ⟨0, 0, y.size, rfl, rfl, Nat.zero_le _, B2, Nat.zero_le _, rfl, by omega⟩
      case round =>
        obtain ⟨j, a, g, rfl, rfl, hj, hB, ha, hc, hg⟩ := hrel
        have HC := Lib.hid hc
        clear hc B2
        by_cases hp : j < y.size
        · obtain ⟨g, rfl⟩ : ∃ k, g = k + 1 := ⟨g - 1, by omega⟩
          by_cases h2 : a < x.size
          · by_cases he : x[a]'h2 = y[j]'hp
            · have hd : (((y[j]'hp).toNat : Int) == ((x[a]'h2).toNat : Int)) = true := by rw [he]; simp
              have HE := Lib.hid (scat_hit (f := g) hp h2 he)
              clear he
              go_wp2
              go_quiet (fail)
              go_wp2
              go_roundw
              case rel => exact ⟨j + 1, a + 1, g, by go_num, by go_num, by omega, hB.drewN _, by omega, by rw [← HC.out, HE.out], by omega⟩
              case measure => simp [intOf]; omega
            · have hd : (((y[j]'hp).toNat : Int) == ((x[a]'h2).toNat : Int)) = false := by
                rw [beq_eq_false_iff_ne]; intro h; exact he (byte_eq_iff.1 h.symm)
              have HE := Lib.hid (scat_miss (f := g) hp h2 he)
              clear he
              go_wp2
              go_quiet (fail)
              go_wp2
              go_roundw
              case rel => exact ⟨j + 1, a, g, rfl, by go_num, by omega, hB.drewN _, by omega, by rw [← HC.out, HE.out], by omega⟩
              case measure => simp [intOf]; omega
          · have hk : scatN x y = a := by rw [← HC.out, scat_full h2]
            have HK := Lib.hid hk
            have hd : decide ((a : Int) < (x.size : Int)) = false := by simp; omega
            clear hk
            go_wp2
            go_ret2
            exact ⟨ret_bi (by rw [HK.out]; simpa using beq_nat a x.size), hB⟩
        · have hk : scatN x y = a := by rw [← HC.out, scat_end hp]
          have HK := Lib.hid hk
          have hd : decide ((j : Int) < (y.size : Int)) = false := by simp; omega
          clear hk
          go_wp2
          go_ret2
          exact ⟨ret_bi (by rw [HK.out]; simpa using beq_nat a x.size), hB⟩
    · rw [scatR_bad (fun h => h2 h.2)]
      have H1 := Lib.hid h1
      have H2 := Lib.hid h2
      clear h1 h2
      go_enter Try.func87, Try.ntmps87
      go_wp2_with fail
      refine (l01Is_yes x _ H1.out).mono ?_
      rintro e w1 ⟨rfl, b1⟩
      go_wp2_with fail
      refine (l01Is_no y _ sy H2.out).mono ?_
      rintro e w2 ⟨rfl, b2⟩
      go_wp2_with fail
      go_ret2
      exact ⟨rfl, b1.then b2⟩
  · rw [scatR_bad (fun h => h1 h.1)]
    have H1 := Lib.hid h1
    clear h1
    go_enter Try.func87, Try.ntmps87
    go_wp2_with (go_at_call 117; refine (l01Is_no x _ sx H1.out).mono ?_; rintro e w1 ⟨rfl, b1⟩)
    go_ret2
    exact ⟨rfl, b1⟩

end Go.Proofs.Ytlaefpmfbnldfab

/-! ### Csc -/
namespace Go.Proofs.Ytlaefpmfbnldfab
set_option linter.unusedVariables false
set_option linter.unusedSimpArgs false
open Go.RowKit

theorem made_cell {w : World} {B g n : Nat} (h : w.ownsRow B 2 1 (.slice (some ⟨g, 0, none⟩) n n) n (madeCells (Value.int .i64 0).cells (n * 1)).toList) (hn : 0 < n) : w.cell? ⟨g, 0, none⟩ = some (.int .i64 0) := by
  rw [h.cellAt 0 (by omega), show (Value.int .i64 0).cells = #[Value.int .i64 0] from rfl, toList_madeCells_one, Nat.mul_one]
  simp [hn]

set_option maxRecDepth 100000 in
set_option maxHeartbeats 4000000 in
theorem spec_CountScattered (x y : ByteArray) (w : World) (sx : x.size ≤ maxLen) (sy : y.size ≤ maxLen) :
    Calls Try.prog 86 #[.string x, .string y] w fun e w' => e = .returned (.tuple #[.int .i64 (cscR x y).1, .int .i64 (cscR x y).2]) ∧ Below w.heap.size w w' := by
  by_cases h1 : IsW x
  · by_cases h2 : IsW y
    · have s1 := h1.size
      have s2 := h2.size
      by_cases h6 : 6 < x.size
      · rw [cscR_long ⟨h1, h2⟩ h6]
        have H1 := Lib.hid h1
        have H2 := Lib.hid h2
        clear h1 h2
        go_enter Try.func86, Try.ntmps86
        go_wp2_with fail
        refine (l01Is_yes x _ H1.out).mono ?_
        rintro e w1 ⟨rfl, b1⟩
        go_wp2_with fail
        refine (l01Is_yes y _ H2.out).mono ?_
        rintro e w2 ⟨rfl, b2⟩
        have B2 := b1.then b2
        clear b1 b2
        go_wp2_with fail
        go_ret2
        exact ⟨rfl, B2⟩
      · obtain ⟨i0, hi, hz0, hz1, hz2⟩ := info_parts infoI64
        rw [cscR_ok ⟨h1, h2⟩ h6]
        have HY := Lib.hid h2
        have H1 := Lib.hid h1
        have H2 := Lib.hid h2
        clear h1 h2
        have h7 : x.size ≤ 6 := by omega
        clear h6
        go_enter Try.func86, Try.ntmps86
        go_wp2_with fail
        refine (l01Is_yes x _ H1.out).mono ?_
        rintro e w1 ⟨rfl, b1⟩
        go_wp2_with fail
        refine (l01Is_yes y _ H2.out).mono ?_
        rintro e w2 ⟨rfl, b2⟩
        have B2 := b1.then b2
        clear b1 b2
        have BX := B2
        have hBX := BX.size
        clear B2
        go_wp2_with (at_make; refine wpList_make_full _ rfl _ _ 30 rfl w.heap.size 2 i0 (.int .i64 0) 1 Try.underlying30 hi hz0 hz1 .i64 .i64 ((x.size : Int) + 1) ((x.size : Int) + 1) (x.size + 1) rfl rfl (by omega) (by omega) (by rw [hz2]; omega) (by unfold maxLen; omega) (hBX) ?_; intro wm hown hgrow; have k1 := made_cell hown (Nat.succ_pos _); have k2 := hown.frozenAt 0)
        have hown0 : wm.ownsRow w.heap.size 2 1 (.slice (some ⟨w2.heap.size, 0, none⟩) (x.size + 1) (x.size + 1)) (x.size + 1) ((List.replicate (x.size + 1) (0 : Int)).map (Value.int .i64)) := by
          have h2 := hown
          rw [show (Value.int .i64 0).cells = #[Value.int .i64 0] from rfl, toList_madeCells_one, Nat.mul_one] at h2
          rw [List.map_replicate]
          exact h2
        have Bm : Below w.heap.size w wm := BX.grown hgrow BX.size (fun _ e => by cases e)
        have hGm : w2.heap.size < wm.heap.size := by
          rcases own_forms hown0 with ⟨h, _⟩ | ⟨g, cap, h, _, h3, _⟩
          · cases h
          · cases h; exact h3
        have hwG : w.heap.size ≤ w2.heap.size := BX.size
        clear hown hgrow
        generalize hG : w2.heap.size = G at *
        clear hG
        have hst := (hown0.stored 0 (.int .i64 1)).1
        rw [show (((List.replicate (x.size + 1) (0 : Int)).map (Value.int .i64)).set 0 (.int .i64 1)) = (csK x y 0).map (Value.int .i64) by rw [csK_zero, List.replicate_succ]; rfl] at hst
        have ST := Lib.hid hst
        have Bs : Below w.heap.size w (wm.setCell ⟨G, 0, none⟩ (.int .i64 1)) := Bm.setCell (p := ⟨G, 0, none⟩) hwG _
        clear hst hown0
        go_wp2_with fail
        go_loopw [7] (fun q wr => ∃ j : Nat, j ≤ y.size ∧ q = .int .i64 j ∧ wr.ownsRow w.heap.size 2 1 (.slice (some ⟨G, 0, none⟩) (x.size + 1) (x.size + 1)) (x.size + 1) ((csK x y j).map (Value.int .i64)) ∧ Below w.heap.size w wr)
          (fun q _ => y.size - (intOf q).toNat)
        case atStart => exact ⟨0, Nat.zero_le _, rfl, ST.out, Bs⟩
        case round =>
          obtain ⟨j, hj, rfl, hown, hB⟩ := hrel
          clear Bs Bm BX k1 k2
          by_cases hp : j < y.size
          · obtain ⟨wo, hwo⟩ : ∃ wo : World, wo = wr := ⟨_, rfl⟩
            have WO := Lib.hid hwo
            clear hwo
            obtain ⟨m, hm0⟩ : ∃ m : Int, m = 2 ^ j := ⟨_, rfl⟩
            have HM : Hid (m ≤ 1152921504606846976) := Lib.hid (by rw [hm0]; exact pow_le60 (by omega))
            have HL : Hid ((csK x y j).length = x.size + 1 ∧ csBd (csK x y j) x.size m ∧ csInn x (y[j]'hp) x.size (csK x y j) = csK x y (j + 1)) := Lib.hid ⟨csK_len x y j hj, by rw [hm0]; exact csK_bd x y j hj x.size, (csK_succ x y j hp).symm⟩
            clear hm0
            go_wp2_with fail
            go_loopw [8] (fun q wr => ∃ (k : Nat) (L : List Int), k ≤ x.size ∧ q = .int .i64 k ∧ Hid (L.length = x.size + 1 ∧ csBd L k m ∧ csInn x (y[j]'hp) k L = csK x y (j + 1)) ∧ wr.ownsRow w.heap.size 2 1 (.slice (some ⟨G, 0, none⟩) (x.size + 1) (x.size + 1)) (x.size + 1) (L.map (Value.int .i64)) ∧ Below w.heap.size w wr)
              (fun q _ => (intOf q).toNat)
            case atStart => exact ⟨x.size, csK x y j, Nat.le_refl _, rfl, HL, hown, hB⟩
            case round =>
              clear hown hB HL
              obtain ⟨k, L, hk, rfl, HL, hown, hB⟩ := hrel
              by_cases hk0 : 0 < k
              · obtain ⟨i, rfl⟩ : ∃ i, k = i + 1 := ⟨k - 1, by omega⟩
                have hi : i < x.size := by omega
                by_cases he : x[i]'hi = y[j]'hp
                · have hd : (((x[i]'hi).toNat : Int) == ((y[j]'hp).toNat : Int)) = true := by rw [he]; simp
                  have hLl : L.length = x.size + 1 := HL.out.1
                  have hbd := HL.out.2.1
                  have b1 := hbd i
                  have b2 := hbd (i + 1)
                  have bm := HM.out
                  have c1 : wr.cell? ⟨G, i, none⟩ = some (.int .i64 (L.getD i 0)) := by
                    rw [hown.cellAt i (by omega)]
                    simp [List.getD_eq_getElem?_getD, List.getElem?_eq_getElem (show i < L.length by omega)]
                  have c2 : wr.cell? ⟨G, i + 1, none⟩ = some (.int .i64 (L.getD (i + 1) 0)) := by
                    rw [hown.cellAt (i + 1) (by omega)]
                    simp [List.getD_eq_getElem?_getD, List.getElem?_eq_getElem (show i + 1 < L.length by omega)]
                  have f2 : wr.frozen? ⟨G, i + 1, none⟩ = false := hown.frozenAt (i + 1)
                  have hst := (hown.stored (i + 1) (.int .i64 (L.getD (i + 1) 0 + L.getD i 0))).1
                  rw [map_set_int, ← cs_hit hi he] at hst
                  have hbd2 := csStep_bd (x := x) (c := y[j]'hp) (i := i) hbd
                  have hlen2 := csStep_len x (y[j]'hp) i L
                  have HL2 : Hid ((csStep x (y[j]'hp) i L).length = x.size + 1 ∧ csBd (csStep x (y[j]'hp) i L) i m ∧ csInn x (y[j]'hp) i (csStep x (y[j]'hp) i L) = csK x y (j + 1)) := Lib.hid ⟨by omega, hbd2, HL.out.2.2⟩
                  generalize hv1 : L.getD i 0 = v1 at *
                  generalize hv2 : L.getD (i + 1) 0 = v2 at *
                  have HST := Lib.hid hst
                  obtain ⟨q1, q2, q3⟩ := b1
                  obtain ⟨q4, q5, q6⟩ := b2
                  have q7 : v2 ≤ m := q6 (by omega)
                  have q8 : v1 ≤ m := q3 (by omega)
                  have e1 : IntKind.i64.wrap (v2 + v1) = v2 + v1 := IntWalk.i64_in _ (by omega)
                  have e2 : IntKind.i64.wrap ((i : Int) + 1) = (i : Int) + 1 := IntWalk.i64_in _ (by omega)
                  have e3 : (0 : Int) ≤ (i : Int) + 1 := by omega
                  have e4 : ((i : Int) + 1).toNat = i + 1 := by omega
                  clear hst hbd hbd2 hlen2 q3 q6 hv1 hv2 hown HL
                  clear he
                  go_wp2
                  go_quiet (fail)
                  go_wp2
                  go_region
                  all_goals
                    go_wp2
                    go_roundw
                    case rel => exact ⟨i, csStep x (y[j]'hp) i L, by omega, by go_num, HL2, HST.out, (hB.setCell (p := ⟨G, i + 1, none⟩) hwG (.int .i64 (v2 + v1))).trans ⟨rfl, rfl, rfl, Nat.le_refl _, fun _ _ => rfl⟩⟩
                    case measure => simp [intOf] <;> omega
                · have hd : (((x[i]'hi).toNat : Int) == ((y[j]'hp).toNat : Int)) = false := by
                    rw [beq_eq_false_iff_ne]; intro h; exact he (byte_eq_iff.1 h)
                  have HL2 : Hid ((csStep x (y[j]'hp) i L).length = x.size + 1 ∧ csBd (csStep x (y[j]'hp) i L) i m ∧ csInn x (y[j]'hp) i (csStep x (y[j]'hp) i L) = csK x y (j + 1)) := Lib.hid ⟨by rw [csStep_len]; exact HL.out.1, csStep_bd HL.out.2.1, HL.out.2.2⟩
                  have HST : Hid (wr.ownsRow w.heap.size 2 1 (.slice (some ⟨G, 0, none⟩) (x.size + 1) (x.size + 1)) (x.size + 1) ((csStep x (y[j]'hp) i L).map (Value.int .i64))) := Lib.hid (by rw [cs_miss hi he]; exact hown)
                  clear hown HL
                  clear he
                  go_wp2
                  go_quiet (fail)
                  go_wp2
                  go_roundw
                  case rel => exact ⟨i, csStep x (y[j]'hp) i L, by omega, by go_num, HL2, HST.out, hB.drewN _⟩
                  case measure => simp [intOf] <;> omega
              · obtain rfl : k = 0 := by omega
                have hown2 : wr.ownsRow w.heap.size 2 1 (.slice (some ⟨G, 0, none⟩) (x.size + 1) (x.size + 1)) (x.size + 1) ((csK x y (j + 1)).map (Value.int .i64)) := by
                  rw [← HL.out.2.2]
                  exact hown
                have HO := Lib.hid hown2
                clear hown hown2 HL
                go_wp2
                go_roundw
                case rel => exact ⟨j + 1, by omega, by go_num, HO.out, hB⟩
                case measure => simp [intOf]; omega
          · obtain rfl : j = y.size := by omega
            have hlen := csK_len x y y.size (Nat.le_refl _)
            have c1 : wr.cell? ⟨G, x.size, none⟩ = some (.int .i64 ((csK x y y.size).getD x.size 0)) := by
              rw [hown.cellAt x.size (by omega)]
              simp [List.getD_eq_getElem?_getD, List.getElem?_eq_getElem (show x.size < (csK x y y.size).length by omega)]
            generalize hz : (csK x y y.size).getD x.size 0 = z at c1
            have HZ := Lib.hid hz
            clear hown hlen hz
            go_wp2
            go_ret2
            exact ⟨by rw [HZ.out]; rfl, hB⟩
    · rw [cscR_bad (fun h => h2 h.2)]
      have H1 := Lib.hid h1
      have H2 := Lib.hid h2
      clear h1 h2
      go_enter Try.func86, Try.ntmps86
      go_wp2_with fail
      refine (l01Is_yes x _ H1.out).mono ?_
      rintro e w1 ⟨rfl, b1⟩
      go_wp2_with fail
      refine (l01Is_no y _ sy H2.out).mono ?_
      rintro e w2 ⟨rfl, b2⟩
      go_wp2_with fail
      go_ret2
      exact ⟨rfl, b1.then b2⟩
  · rw [cscR_bad (fun h => h1 h.1)]
    have H1 := Lib.hid h1
    clear h1
    go_enter Try.func86, Try.ntmps86
    go_wp2_with (go_at_call 117; refine (l01Is_no x _ sx H1.out).mono ?_; rintro e w1 ⟨rfl, b1⟩)
    go_ret2
    exact ⟨rfl, b1⟩

set_option maxRecDepth 100000 in
set_option maxHeartbeats 4000000 in
theorem impl_CountScattered (x y : ByteArray) (w : World) (sx : x.size ≤ maxLen) (sy : y.size ≤ maxLen) :
    Calls Try.prog 85 #[.string x, .string y] w fun e w' => e = .returned (.tuple #[.int .i64 (cscR x y).1, .int .i64 (cscR x y).2]) ∧ Below w.heap.size w w' := by
  by_cases h : IsW x ∧ IsW y
  · have s1 := h.1.size
    have s2 := h.2.size
    by_cases h6 : 6 < x.size
    · rw [cscR_long h h6]
      have H := Lib.hid h
      clear h
      go_enter Try.func85, Try.ntmps85
      go_wp2_with (go_at_call 130; refine (areWords2_yes _ x y _ (by simp) (by simp [go_sem]) (by simp [go_sem]) H.out.1 H.out.2).mono ?_; rintro e w1 ⟨rfl, b1⟩)
      go_ret2
      exact ⟨rfl, (Below.new _ _).then b1⟩
    · obtain ⟨i0, hi, hz0, hz1, hz2⟩ := info_parts infoI64
      rw [cscR_ok h h6]
      have H := Lib.hid h
      clear h
      have h7 : x.size ≤ 6 := by omega
      clear h6
      go_enter Try.func85, Try.ntmps85
      go_wp2_with fail
      refine (areWords2_yes _ x y _ (by simp) (by simp [go_sem]) (by simp [go_sem]) H.out.1 H.out.2).mono ?_
      rintro e w1 ⟨rfl, b1⟩
      have BX := (Below.new w _).then b1
      have hBX := BX.size
      clear b1
      go_wp2_with (at_make; refine wpList_make_full _ rfl _ _ 30 rfl w.heap.size 2 i0 (.int .i64 0) 1 Try.underlying30 hi hz0 hz1 .i64 .i64 ((x.size : Int) + 1) ((x.size : Int) + 1) (x.size + 1) rfl rfl (by omega) (by omega) (by rw [hz2]; omega) (by unfold maxLen; omega) (hBX) ?_; intro wm hown hgrow; have k1 := made_cell hown (Nat.succ_pos _); have k2 := hown.frozenAt 0)
      have hown0 : wm.ownsRow w.heap.size 2 1 (.slice (some ⟨w1.heap.size, 0, none⟩) (x.size + 1) (x.size + 1)) (x.size + 1) ((List.replicate (x.size + 1) (0 : Int)).map (Value.int .i64)) := by
        have h2 := hown
        rw [show (Value.int .i64 0).cells = #[Value.int .i64 0] from rfl, toList_madeCells_one, Nat.mul_one] at h2
        rw [List.map_replicate]
        exact h2
      have Bm : Below w.heap.size w wm := BX.grown hgrow BX.size (fun _ e => by cases e)
      have hGm : w1.heap.size < wm.heap.size := by
        rcases own_forms hown0 with ⟨h, _⟩ | ⟨g, cap, h, _, h3, _⟩
        · cases h
        · cases h; exact h3
      have hwG : w.heap.size ≤ w1.heap.size := BX.size
      clear hown hgrow
      generalize hG : w1.heap.size = G at *
      clear hG
      have hst := (hown0.stored 0 (.int .i64 1)).1
      rw [show (((List.replicate (x.size + 1) (0 : Int)).map (Value.int .i64)).set 0 (.int .i64 1)) = (csK x y 0).map (Value.int .i64) by rw [csK_zero, List.replicate_succ]; rfl] at hst
      have ST := Lib.hid hst
      have Bs : Below w.heap.size w (wm.setCell ⟨G, 0, none⟩ (.int .i64 1)) := Bm.setCell (p := ⟨G, 0, none⟩) hwG _
      clear hst hown0
      have hle := Bm.size
      go_wp2_with fail
      go_loopw [] (fun wr => ∃ j : Nat, j ≤ y.size ∧ wr.heap[wm.heap.size]? = some (.stringIter y j) ∧ wr.ownsRow w.heap.size 2 1 (.slice (some ⟨G, 0, none⟩) (x.size + 1) (x.size + 1)) (x.size + 1) ((csK x y j).map (Value.int .i64)) ∧ Below w.heap.size w wr)
        (fun wr => y.size - wr.iterPos wm.heap.size)
      case atStart =>
        have hs : (wm.setCell ⟨G, 0, none⟩ (.int .i64 1)).heap.size = wm.heap.size := by simp [World.setCell]
        have hit := World.iter_heap (wm.setCell ⟨G, 0, none⟩ (.int .i64 1)) y 0
        rw [hs] at hit
        exact ⟨0, Nat.zero_le _, hit, ST.out.alloc _, Bs.alloc (by rw [hs]; exact hle) _⟩
      case round =>
        obtain ⟨j, hj, hit, hown, hB⟩ := hrel
        clear Bs Bm BX k1 k2
        obtain ⟨wo, rfl⟩ : ∃ wo : World, wo = wr := ⟨_, rfl⟩
        by_cases hp : j < y.size
        · have hlo := H.out.2.lo j hp
          have hhi := H.out.2.hi j hp
          have hnx : ∀ ty, (Instr.next (.pointer (some ⟨wm.heap.size, 0, none⟩)) true ty).run Try.prog wo = _ := fun ty => Lib.run_next_ascii_at wo wm.heap.size y j ty hit hp (by omega)
          have hit2 := Lib.iterAt_heap wo wm.heap.size y j (j + 1) hit
          have hB2 := Lib.below_iterAt hB hle y (j + 1)
          have hown := ownsRow_iterAt' hown hit (j + 1)
          have HIT := Lib.hid hit
          have HIT2 := Lib.hid hit2
          clear hit hit2 hB
          generalize hgw : wo.iterAt wm.heap.size y (j + 1) = wi at *
          have HG := Lib.hid hgw
          clear hgw
          obtain ⟨m, hm0⟩ : ∃ m : Int, m = 2 ^ j := ⟨_, rfl⟩
          have HM : Hid (m ≤ 1152921504606846976) := Lib.hid (by rw [hm0]; exact pow_le60 (by omega))
          have HL : Hid ((csK x y j).length = x.size + 1 ∧ csBd (csK x y j) x.size m ∧ csInn x (y[j]'hp) x.size (csK x y j) = csK x y (j + 1)) := Lib.hid ⟨csK_len x y j hj, by rw [hm0]; exact csK_bd x y j hj x.size, (csK_succ x y j hp).symm⟩
          clear hm0
          go_wp2_with fail
          go_loopw [9] (fun q wr => ∃ (k : Nat) (L : List Int), k ≤ x.size ∧ q = .int .i64 ((k : Int) - 1) ∧ Hid (L.length = x.size + 1 ∧ csBd L k m ∧ csInn x (y[j]'hp) k L = csK x y (j + 1)) ∧ wr.ownsRow w.heap.size 2 1 (.slice (some ⟨G, 0, none⟩) (x.size + 1) (x.size + 1)) (x.size + 1) (L.map (Value.int .i64)) ∧ Below w.heap.size w wr ∧ Hid (wr.heap[wm.heap.size]? = some (.stringIter y (j + 1))))
            (fun q _ => (intOf q + 1).toNat)
          case atStart => exact ⟨x.size, csK x y j, Nat.le_refl _, rfl, HL, hown, hB2, HIT2⟩
          case round =>
            clear hown hB2 HL HIT2 hnx
            obtain ⟨k, L, hk, rfl, HL, hown, hB, HIT2⟩ := hrel
            by_cases hk0 : 0 < k
            · obtain ⟨i, rfl⟩ : ∃ i, k = i + 1 := ⟨k - 1, by omega⟩
              have hi : i < x.size := by omega
              by_cases he : x[i]'hi = y[j]'hp
              · have hd : (((x[i]'hi).toNat : Int) == ((y[j]'hp).toNat : Int)) = true := by rw [he]; simp
                have hLl : L.length = x.size + 1 := HL.out.1
                have hbd := HL.out.2.1
                have b1 := hbd i
                have b2 := hbd (i + 1)
                have bm := HM.out
                have c1 : wr.cell? ⟨G, i, none⟩ = some (.int .i64 (L.getD i 0)) := by
                  rw [hown.cellAt i (by omega)]
                  simp [List.getD_eq_getElem?_getD, List.getElem?_eq_getElem (show i < L.length by omega)]
                have c2 : wr.cell? ⟨G, i + 1, none⟩ = some (.int .i64 (L.getD (i + 1) 0)) := by
                  rw [hown.cellAt (i + 1) (by omega)]
                  simp [List.getD_eq_getElem?_getD, List.getElem?_eq_getElem (show i + 1 < L.length by omega)]
                have f2 : wr.frozen? ⟨G, i + 1, none⟩ = false := hown.frozenAt (i + 1)
                have hst := (hown.stored (i + 1) (.int .i64 (L.getD (i + 1) 0 + L.getD i 0))).1
                rw [map_set_int, ← cs_hit hi he] at hst
                have hbd2 := csStep_bd (x := x) (c := y[j]'hp) (i := i) hbd
                have hlen2 := csStep_len x (y[j]'hp) i L
                have HL2 : Hid ((csStep x (y[j]'hp) i L).length = x.size + 1 ∧ csBd (csStep x (y[j]'hp) i L) i m ∧ csInn x (y[j]'hp) i (csStep x (y[j]'hp) i L) = csK x y (j + 1)) := Lib.hid ⟨by omega, hbd2, HL.out.2.2⟩
                generalize hv1 : L.getD i 0 = v1 at *
                generalize hv2 : L.getD (i + 1) 0 = v2 at *
                have HST := Lib.hid hst
                obtain ⟨q1, q2, q3⟩ := b1
                obtain ⟨q4, q5, q6⟩ := b2
                have q7 : v2 ≤ m := q6 (by omega)
                have q8 : v1 ≤ m := q3 (by omega)
                have e1 : IntKind.i64.wrap (v2 + v1) = v2 + v1 := IntWalk.i64_in _ (by omega)
                have e2 : IntKind.i64.wrap ((i : Int) + 1) = (i : Int) + 1 := IntWalk.i64_in _ (by omega)
                have e3 : (0 : Int) ≤ (i : Int) + 1 := by omega
                have e4 : ((i : Int) + 1).toNat = i + 1 := by omega
                clear hst hbd hbd2 hlen2 q3 q6 hv1 hv2 hown HL
                clear he
                have HIT3 : Hid ((wr.setCell ⟨G, i + 1, none⟩ (.int .i64 (v2 + v1))).heap[wm.heap.size]? = some (.stringIter y (j + 1))) := Lib.hid (by rw [Below.heap_setCell _ _ _ _ (by simp; omega)]; exact HIT2.out)
                have hi7 := H.out.1.hi i hi
                go_wp2
                go_region
                all_goals
                  go_wp2
                  go_roundw
                  case rel => exact ⟨i, csStep x (y[j]'hp) i L, by omega, by go_num, HL2, HST.out, (hB.setCell (p := ⟨G, i + 1, none⟩) hwG (.int .i64 (v2 + v1))).trans ⟨rfl, rfl, rfl, Nat.le_refl _, fun _ _ => rfl⟩, HIT3⟩
                  case measure => simp [intOf] <;> omega
              · have hd : (((x[i]'hi).toNat : Int) == ((y[j]'hp).toNat : Int)) = false := by
                  rw [beq_eq_false_iff_ne]; intro h; exact he (byte_eq_iff.1 h)
                have HL2 : Hid ((csStep x (y[j]'hp) i L).length = x.size + 1 ∧ csBd (csStep x (y[j]'hp) i L) i m ∧ csInn x (y[j]'hp) i (csStep x (y[j]'hp) i L) = csK x y (j + 1)) := Lib.hid ⟨by rw [csStep_len]; exact HL.out.1, csStep_bd HL.out.2.1, HL.out.2.2⟩
                have HST : Hid (wr.ownsRow w.heap.size 2 1 (.slice (some ⟨G, 0, none⟩) (x.size + 1) (x.size + 1)) (x.size + 1) ((csStep x (y[j]'hp) i L).map (Value.int .i64))) := Lib.hid (by rw [cs_miss hi he]; exact hown)
                clear hown HL
                clear he
                have hi7 := H.out.1.hi i hi
                go_wp2
                go_roundw
                case rel => exact ⟨i, csStep x (y[j]'hp) i L, by omega, by go_num, HL2, HST.out, hB, HIT2⟩
                case measure => simp [intOf] <;> omega
            · obtain rfl : k = 0 := by omega
              have hown2 : wr.ownsRow w.heap.size 2 1 (.slice (some ⟨G, 0, none⟩) (x.size + 1) (x.size + 1)) (x.size + 1) ((csK x y (j + 1)).map (Value.int .i64)) := by
                rw [← HL.out.2.2]
                exact hown
              have HO := Lib.hid hown2
              clear hown hown2 HL
              go_wp2
              go_roundw
              case rel => exact ⟨j + 1, by omega, HIT2.out, HO.out, hB⟩
              case measure => simp only [World.iterPos, HIT2.out, HIT.out]; omega
        · obtain rfl : j = y.size := by omega
          have hnx : ∀ ty, (Instr.next (.pointer (some ⟨wm.heap.size, 0, none⟩)) true ty).run Try.prog wo = _ := fun ty => Lib.run_next_end_at wo wm.heap.size y y.size ty hit hp
          have hlen := csK_len x y y.size (Nat.le_refl _)
          have c1 : wo.cell? ⟨G, x.size, none⟩ = some (.int .i64 ((csK x y y.size).getD x.size 0)) := by
            rw [hown.cellAt x.size (by omega)]
            simp [List.getD_eq_getElem?_getD, List.getElem?_eq_getElem (show x.size < (csK x y y.size).length by omega)]
          generalize hz : (csK x y y.size).getD x.size 0 = z at c1
          have HZ := Lib.hid hz
          clear hown hlen hz
          go_wp2
          go_ret2
          exact ⟨by rw [HZ.out]; rfl, hB⟩
  · rw [cscR_bad h]
    have H := Lib.hid h
    clear h
    go_enter Try.func85, Try.ntmps85
    go_wp2_with (go_at_call 130; refine (areWords2_no _ x y _ (by simp) (by simp [go_sem]) (by simp [go_sem]) sx sy H.out).mono ?_; rintro e w1 ⟨rfl, b1⟩)
    go_ret2
    exact ⟨rfl, (Below.new _ _).then b1⟩

end Go.Proofs.Ytlaefpmfbnldfab

/-! ### WordsPlain -/
namespace Go.Proofs.Ytlaefpmfbnldfab
set_option linter.unusedVariables false
set_option linter.unusedSimpArgs false
open Go.RowKit

def lt1 (j : Nat) : ByteArray := ⟨#[letB (j : Int)]⟩
def rowW (s : ByteArray) (c : Nat) : List ByteArray := (List.range c).map fun j => s ++ lt1 j
def nextW (k : Nat) (L : List ByteArray) : List ByteArray := L.flatMap fun s => rowW s k
def allW (k : Nat) : Nat → List ByteArray
  | 0 => [⟨#[]⟩]
  | m + 1 => nextW k (allW k m)
theorem rowW_len (s : ByteArray) (c : Nat) : (rowW s c).length = c := by simp [rowW]
theorem rowW_succ (s : ByteArray) (c : Nat) : rowW s (c + 1) = rowW s c ++ [s ++ lt1 c] := by simp [rowW, List.range_succ]
theorem rowW_zero (s : ByteArray) : rowW s 0 = [] := rfl
theorem nextW_take (k : Nat) (L : List ByteArray) (i : Nat) (h : i < L.length) : nextW k (L.take (i + 1)) = nextW k (L.take i) ++ rowW (L[i]'h) k := by
  unfold nextW
  rw [List.take_succ_eq_append_getElem h, List.flatMap_append]
  simp
theorem nextW_len (k : Nat) : ∀ (L : List ByteArray), (nextW k L).length = L.length * k
  | [] => by simp [nextW]
  | s :: L => by
    have h := nextW_len k L
    unfold nextW at *
    rw [List.flatMap_cons, List.length_append, h, rowW_len, List.length_cons, Nat.succ_mul, Nat.add_comm]
theorem allW_len (k : Nat) : ∀ m, (allW k m).length = k ^ m
  | 0 => rfl
  | m + 1 => by rw [allW, nextW_len, allW_len k m, Nat.pow_succ]
theorem lt1_size (j : Nat) : (lt1 j).size = 1 := rfl
theorem mem_nextW {k : Nat} {L : List ByteArray} {n : Nat} (h : ∀ s ∈ L, s.size ≤ n) : ∀ s ∈ nextW k L, s.size ≤ n + 1 := by
  intro s hs
  unfold nextW at hs
  rw [List.mem_flatMap] at hs
  obtain ⟨t, ht, hs⟩ := hs
  unfold rowW at hs
  rw [List.mem_map] at hs
  obtain ⟨j, _, rfl⟩ := hs
  rw [ByteArray.size_append, lt1_size]
  have := h t ht
  omega
theorem allW_size (k : Nat) : ∀ m, ∀ s ∈ allW k m, s.size ≤ m
  | 0, s, h => by
    simp [allW] at h
    subst h
    exact Nat.le_refl _
  | m + 1, s, h => mem_nextW (allW_size k m) s h
theorem encode_letter (j : Nat) (h : j ≤ 4) : Utf8.encode (97 + (j : Int)) = lt1 j := by
  have : ∀ j : Nat, j ≤ 4 → Utf8.encode (97 + (j : Int)) = lt1 j := by
    intro j hj
    match j, hj with
    | 0, _ => rfl
    | 1, _ => rfl
    | 2, _ => rfl
    | 3, _ => rfl
    | 4, _ => rfl
  exact this j h
def wordsR (m k : Int) : List ByteArray × Int := if m < 0 ∨ 60 < m ∨ k < 1 ∨ 5 < k then ([], 2) else if 256 < k.toNat ^ m.toNat then ([], 3) else (allW k.toNat m.toNat, 0)
theorem wordsR_out {m k : Int} (h : m < 0 ∨ 60 < m ∨ k < 1 ∨ 5 < k) : wordsR m k = ([], 2) := if_pos h
theorem wordsR_long {m k : Nat} (h1 : m ≤ 60) (h2 : 1 ≤ k) (h3 : k ≤ 5) (h : 256 < k ^ m) : wordsR (m : Int) (k : Int) = ([], 3) := by unfold wordsR; rw [if_neg (by omega), if_pos (by simpa using h)]
theorem wordsR_ok {m k : Nat} (h1 : m ≤ 60) (h2 : 1 ≤ k) (h3 : k ≤ 5) (h : ¬ 256 < k ^ m) : wordsR (m : Int) (k : Int) = (allW k m, 0) := by unfold wordsR; rw [if_neg (by omega), if_neg (by simpa using h)]; rfl
theorem wordsR_len (m k : Int) : (wordsR m k).1.length ≤ 4096 := by
  unfold wordsR
  split
  · simp
  · split
    · simp
    · rename_i h
      rw [allW_len]
      omega

end Go.Proofs.Ytlaefpmfbnldfab

/-! ### Longer -/
namespace Go.Proofs.Ytlaefpmfbnldfab
set_option linter.unusedVariables false
set_option linter.unusedSimpArgs false
open Go.RowKit

theorem ownS_snoc {w : World} {B : Nat} {v : Value} {L : List ByteArray} {s : ByteArray} (h : w.ownsRow B 9 1 v (L.length + 1) (L.map Value.string ++ [Value.string s])) : OwnS w B v (L ++ [s]) := by
  unfold OwnS
  rw [List.length_append, List.map_append]
  exact h

set_option maxRecDepth 100000 in
set_option maxHeartbeats 4000000 in
theorem longer_any (B : Nat) (v : Value) (L : List ByteArray) (k : Nat) (w : World) (h : OwnS w B v L) (hl : L.length ≤ 256) (hk : k ≤ 5) (hs : ∀ s ∈ L, s.size ≤ 60) :
    Calls Try.prog 152 #[v, .int .i64 (k : Int)] w fun e w' => ∃ v', e = .returned v' ∧ OwnS w' w.heap.size v' (nextW k L) ∧ Below w.heap.size w w' := by
  obtain ⟨i0, hi, hz0, hz1, hz2⟩ := info_parts infoStr
  by_cases h0 : L = []
  · subst h0
    obtain ⟨a1, c1, rfl⟩ := h.empty
    clear h
    go_enter Try.func152, Try.ntmps152
    go_wp2
    refine wp_loop_rounds 1 ?_
    rw [rounds_succ]
    go_wp2
    go_ret
    exact ⟨_, rfl, OwnS.nil _ _, Below.refl _ _⟩
  · have hn : 0 < L.length := List.length_pos_iff.2 h0
    obtain ⟨g, cp, rfl, _, hg, hc, _, cell, _⟩ := h.row hn
    have C := Lib.hid cell
    have S := Lib.hid hs
    clear h cell h0 hs
    go_enter Try.func152, Try.ntmps152
    go_wp2
    go_loopw [5, 11] (fun v q wr => ∃ i : Nat, i ≤ L.length ∧ q = .int .i64 i ∧ OwnS wr w.heap.size v (nextW k (L.take i)) ∧ Below w.heap.size w wr) (fun _ q _ => L.length - (intOf q).toNat)
    case atStart => exact ⟨0, Nat.zero_le _, rfl, by simpa [nextW] using OwnS.nil _ _, Below.refl _ _⟩
    case round =>
      obtain ⟨i, hil, rfl, hown, hB⟩ := hrel
      obtain ⟨wo, rfl⟩ : ∃ wo : World, wo = wr := ⟨_, rfl⟩
      by_cases hp : i < L.length
      · have k1 : wo.cell? ⟨g, i, none⟩ = some (.string (L[i]'hp)) := by rw [(bcell hB).1 g i hg]; exact C.out i hp
        have hsz := S.out (L[i]'hp) (List.getElem_mem hp)
        have hnt := nextW_take k L i hp
        have hlen : (nextW k (L.take i)).length = i * k := by rw [nextW_len, List.length_take, Nat.min_eq_left (by omega)]
        have hmul : i * k ≤ 256 * 5 := Nat.mul_le_mul (by omega) hk
        have HNT := Lib.hid hnt
        have K1 := Lib.hid k1
        clear hnt k1
        generalize hzz : L[i]'hp = s at *
        generalize hP : nextW k (L.take i) = P at *
        have hPl : P.length ≤ 1280 := by omega
        have HP := Lib.hid hP
        clear hzz hP hlen hmul
        have k1 := K1.out
        have hic : i < cp := by omega
        go_wp2_with fail
        go_loopw [5, 16] (fun v q wr => ∃ c : Nat, c ≤ k ∧ q = .int .i64 c ∧ OwnS wr w.heap.size v (P ++ rowW s c) ∧ Below w.heap.size w wr) (fun _ q _ => k - (intOf q).toNat)
        case atStart => exact ⟨0, Nat.zero_le _, rfl, by rw [rowW_zero, List.append_nil]; exact hown, hB⟩
        case round =>
          clear hown hB
          obtain ⟨c, hck, rfl, hown, hB⟩ := hrel
          by_cases hcl : c < k
          · have hrs := rowW_succ s c
            have hrl : (P ++ rowW s c).length = P.length + c := by rw [List.length_append, rowW_len]
            have HRS : Hid ((P ++ rowW s c) ++ [s ++ lt1 c] = P ++ rowW s (c + 1)) := Lib.hid (by rw [hrs, List.append_assoc])
            have henc := encode_letter c (by omega)
            have HEN := Lib.hid henc
            have e1 := lt1_size c
            generalize lt1 c = t at *
            have e2 : t.size ≤ 1 := by omega
            have hBz := hB.size
            generalize hQ : P ++ rowW s c = Q at *
            have hQl : Q.length ≤ 1290 := by omega
            clear hrs henc e1 hQ hrl
            go_wp2_with fail
            refine (letterOf_any c _ (by omega) (by omega)).mono ?_
            rintro e w2 ⟨rfl, rfl⟩
            have hcv : (convert 21 9 (.int .i32 (97 + (c : Int)))).run Try.prog wr = .ok (.string t) wr := by
              rw [run_convert_int_string wr _ _ _ _ (by rw [Try.underlying21]; rfl) Try.underlying9, HEN.out]
            go_wp2_with (at_builtin; refine wpList_append_own _ rfl _ _ 44 rfl w.heap.size 9 i0 (.string ⟨#[]⟩) 1 16 Try.underlying44 hi hz0 hz1 hz2 rfl (by decide) _ _ _ rfl (World.ownsRow.alloc hown _) ⟨_, 0, none⟩ 1 1 [.string (s ++ t)] rfl rfl (cell_new _ _ _) (by intro u hu; simp at hu; subst hu; rfl) (by unfold maxLen; omega) (by omega) (by simp; omega) ?_; intro v' w3 hown' hgrow _)
            have hown3 := ownS_snoc hown'
            rw [HRS.out] at hown3
            have HO := Lib.hid hown3
            have hB3 : Below w.heap.size w w3 := (hB.alloc hBz _).grown hgrow (by simp; omega) (fun q hq => (OwnS.lt hown q hq).1)
            clear hown' hown3 hcv
            go_roundw
            case rel => exact ⟨c + 1, by omega, by go_num, HO.out, hB3⟩
            case measure => simp [intOf] <;> omega
          · obtain rfl : c = k := by omega
            have hown2 := hown
            rw [← HNT.out] at hown2
            have HO := Lib.hid hown2
            clear hown hown2
            go_wp2
            go_roundw
            case rel => exact ⟨i + 1, by omega, by go_num, HO.out, hB⟩
            case measure => simp [intOf] <;> omega
      · have hown2 := hown
        rw [List.take_of_length_le (by omega)] at hown2
        have HO := Lib.hid hown2
        clear hown hown2
        go_wp2
        go_ret
        exact ⟨_, rfl, HO.out, hB⟩

end Go.Proofs.Ytlaefpmfbnldfab

/-! ### All -/
namespace Go.Proofs.Ytlaefpmfbnldfab
set_option linter.unusedVariables false
set_option linter.unusedSimpArgs false
open Go.RowKit

theorem pow_le_of {k m j : Nat} (hk : 1 ≤ k) (h : k ^ m ≤ 256) (hj : j ≤ m) : k ^ j ≤ 256 := Nat.le_trans (Nat.pow_le_pow_right hk hj) h

set_option maxRecDepth 100000 in
set_option maxHeartbeats 8000000 in
theorem l01All_any (m k : Nat) (w : World) (hm : m ≤ 60) (hk1 : 1 ≤ k) (hk5 : k ≤ 5) (hp : k ^ m ≤ 256) :
    Calls Try.prog 153 #[.int .i64 (m : Int), .int .i64 (k : Int)] w fun e w' => ∃ v', e = .returned v' ∧ OwnS w' w.heap.size v' (allW k m) ∧ Below w.heap.size w w' := by
  obtain ⟨i0, hi, hz0, hz1, hz2⟩ := info_parts infoStr
  have HP := Lib.hid hp
  clear hp
  go_enter Try.func153, Try.ntmps153
  go_wp2
  go_loopw [0, 5] (fun q v wr => ∃ j : Nat, j ≤ m ∧ q = .int .i64 ((m : Int) - j) ∧ OwnS wr w.heap.size v (allW k j) ∧ Below w.heap.size w wr) (fun q _ _ => (intOf q).toNat)
  case atStart =>
    refine ⟨0, Nat.zero_le _, by simp, ?_, Below.new _ _⟩
    exact World.ownsRow_lit w #[.string ⟨#[]⟩] 1 (Nat.le_refl _) (by decide) (by simp)
  case round =>
    obtain ⟨j, hj, rfl, hown, hB⟩ := hrel
    obtain ⟨wo, rfl⟩ : ∃ wo : World, wo = wr := ⟨_, rfl⟩
    by_cases hjm : j < m
    · have hle := pow_le_of hk1 HP.out hj
      have hL := allW_len k j
      have hsz := allW_size k j
      have HS : Hid (∀ s ∈ allW k j, s.size ≤ 60) := Lib.hid fun s h => by have := hsz s h; omega
      have HN : Hid (nextW k (allW k j) = allW k (j + 1)) := Lib.hid rfl
      generalize hA : allW k j = L at *
      have hlen : L.length ≤ 256 := by omega
      have hlen0 : 0 < L.length := by rw [hL]; exact Nat.pow_pos (by omega)
      obtain ⟨g, cp, hv, hgB, hg, hcp, _, cell, _⟩ := OwnS.row hown hlen0
      subst hv
      have C := Lib.hid cell
      have hBz := hB.size
      clear hle hL hsz hA hown cell
      go_wp2_with fail
      have hstart : OwnS (wo.alloc (.cells #[] 9)) wo.heap.size (.slice (some ⟨wo.heap.size, 0, none⟩) 0 0) (nextW k (L.take 0)) := by
        simp only [List.take_zero, nextW, List.flatMap_nil]
        exact World.ownsRow_lit wo #[] 0 (Nat.le_refl _) (by decide) (by simp)
      go_loopw [6, 7] (fun v q wr => ∃ i : Nat, i ≤ L.length ∧ q = .int .i64 i ∧ OwnS wr wo.heap.size v (nextW k (L.take i)) ∧ Below wo.heap.size wo wr) (fun _ q _ => L.length - (intOf q).toNat)
      case atStart => exact ⟨0, Nat.zero_le _, rfl, hstart, Below.new _ _⟩
      case round =>
        clear hstart
        obtain ⟨i, hil, rfl, hown, hB2⟩ := hrel
        obtain ⟨wp, rfl⟩ : ∃ wp : World, wp = wr := ⟨_, rfl⟩
        by_cases hp : i < L.length
        · have hs60 := HS.out (L[i]'hp) (List.getElem_mem hp)
          have hnt := nextW_take k L i hp
          have hln : (nextW k (L.take i)).length = i * k := by rw [nextW_len, List.length_take, Nat.min_eq_left (by omega)]
          have hmul : i * k ≤ 256 * 5 := Nat.mul_le_mul (by omega) hk5
          have k0 := C.out i hp
          have HNT := Lib.hid hnt
          have K0 := Lib.hid k0
          clear hnt k0
          generalize hzz : L[i]'hp = s at *
          generalize hP : nextW k (L.take i) = P at *
          have hPl : P.length ≤ 1280 := by omega
          have hic : i < cp := by omega
          clear hzz hP hln hmul
          go_wp2_with fail
          go_loopw [6, 8] (fun v q wr => ∃ c : Nat, c ≤ k ∧ q = .int .i64 c ∧ OwnS wr wo.heap.size v (P ++ rowW s c) ∧ Below wo.heap.size wo wr) (fun _ q _ => k - (intOf q).toNat)
          case atStart => exact ⟨0, Nat.zero_le _, rfl, by rw [rowW_zero, List.append_nil]; exact hown, hB2⟩
          case round =>
            clear hown hB2
            obtain ⟨c, hck, rfl, hown, hB2⟩ := hrel
            by_cases hcl : c < k
            · have hrs := rowW_succ s c
              have hrl : (P ++ rowW s c).length = P.length + c := by rw [List.length_append, rowW_len]
              have HRS : Hid ((P ++ rowW s c) ++ [s ++ lt1 c] = P ++ rowW s (c + 1)) := Lib.hid (by rw [hrs, List.append_assoc])
              have LT := Lib.hid (show (⟨#[letB (c : Int)]⟩ : ByteArray) = lt1 c from rfl)
              have e1 := lt1_size c
              generalize lt1 c = t at *
              have e2 : t.size ≤ 1 := by omega
              have k1 : wr.cell? ⟨g, i, none⟩ = some (.string s) := by rw [(bcell hB2).1 g i hg]; exact K0.out
              have hBz2 := hB2.size
              have hgw : g < wr.heap.size := by omega
              generalize hQ : P ++ rowW s c = Q at *
              have hQl : Q.length ≤ 1290 := by omega
              clear hrs e1 hQ hrl
              go_wp2_with fail
              have hsum : ∀ W, (Op.stringOp .add s t).run Try.prog W = .ok (.string (s ++ t)) W := fun W => run_string_add_sum W s t (by omega)
              have hne : some g ≠ Value.ownBlock u6 := fun e => by have := (OwnS.lt hown g e.symm).1; omega
              go_region_held3 (fun w' => w'.cell? ⟨g, i, none⟩ = some (.string s)) (first | go_keep | (rw [hgrow.cell_far _ (by simp at hb2z ⊢; omega) hne]; simp [*, World.cell?_alloc_some])) (first | (go_at_call 142; refine (l01Letter_any c _ (by omega) (by omega)).mono ?_; rintro e w2 ⟨rfl, b2⟩; rw [LT.out]; have hc2 := (bcell b2).1 g i (by simpa using hgw); have ho2 := OwnS.below (w := wr.drew) hown b2; have hb2z := b2.size) | (refine step_append_lies _ (by rfl) _ _ 44 (by rfl) wo.heap.size 9 i0 (.string ⟨#[]⟩) 1 16 Try.underlying44 hi hz0 hz1 hz2 rfl (by decide) u6 Q.length (Q.map Value.string) (by rfl) (World.ownsRow.alloc ho2 _) ⟨w2.heap.size, 0, none⟩ 1 1 [.string (s ++ t)] (by rfl) (by rfl) (cell_new _ _ _) (by simp [Value.oneCell']) (by omega) (by unfold maxLen; omega) (by omega) (by simp at hb2z ⊢; omega) _ rfl ?_; intro gg cap w1 hown1 hgrow hat hlt))
              have hown3 := ownS_snoc hown1
              rw [HRS.out] at hown3
              have HO := Lib.hid hown3
              have hB3 : Below wo.heap.size wo w1 := (((hB2.drew).trans (b2.mono hBz2)).alloc (by simp at hb2z; omega) _).grown hgrow (by simp at hb2z ⊢; omega) (fun q hq => (OwnS.lt hown q hq).1)
              clear hown1 hown3 hgrow hat
              go_wp2_with fail
              go_roundw
              case rel => exact ⟨c + 1, by omega, by go_num, HO.out, hB3⟩
              case measure => simp [intOf] <;> omega
            · obtain rfl : c = k := by omega
              have hown2 := hown
              rw [← HNT.out] at hown2
              have HO := Lib.hid hown2
              clear hown hown2
              go_wp2
              go_roundw
              case rel => exact ⟨i + 1, by omega, by go_num, HO.out, hB2⟩
              case measure => simp [intOf] <;> omega
        · have hown2 := hown
          rw [List.take_of_length_le (by omega), HN.out] at hown2
          have HO := Lib.hid (OwnS.base hown2 hBz)
          have hB3 := hB.then hB2
          clear hown hown2
          go_wp2
          go_roundw
          case rel => exact ⟨j + 1, by omega, by go_num, HO.out, hB3⟩
          case measure => simp [intOf]; omega
    · have hE : Hid (j = m) := Lib.hid (by omega)
      have HO := Lib.hid hown
      clear hown
      go_wp2
      go_ret
      exact ⟨_, rfl, by rw [← hE.out]; exact HO.out, hB⟩

end Go.Proofs.Ytlaefpmfbnldfab

/-! ### WordsOf -/
namespace Go.Proofs.Ytlaefpmfbnldfab
set_option linter.unusedVariables false
set_option linter.unusedSimpArgs false
open Go.RowKit

theorem pow_pos' {k j : Nat} (hk : 1 ≤ k) : 0 < k ^ j := Nat.pow_pos (by omega)

set_option maxRecDepth 100000 in
set_option maxHeartbeats 4000000 in
theorem impl_WordsOf (m k : Int) (w : World) (wm : (Lit.int .i64 m).wf = true) (wk : (Lit.int .i64 k).wf = true) :
    Calls Try.prog 93 #[.int .i64 m, .int .i64 k] w (RetS (wordsR m k).1 (wordsR m k).2 w) := by
  by_cases hb : m < 0 ∨ 60 < m ∨ k < 1 ∨ 5 < k
  · rw [wordsR_out hb]
    rcases (show m < 0 ∨ (0 ≤ m ∧ 60 < m) ∨ (0 ≤ m ∧ m ≤ 60 ∧ k < 1) ∨ (0 ≤ m ∧ m ≤ 60 ∧ 1 ≤ k ∧ 5 < k) by omega) with h | ⟨h1, h⟩ | ⟨h1, h2, h⟩ | ⟨h1, h2, h3, h⟩
    all_goals
      clear hb
      go_enter Try.func93, Try.ntmps93
      go_wp2
      go_ret2
      exact ⟨_, rfl, OwnS.nil _ _, Below.refl _ _⟩
  · obtain ⟨m, rfl⟩ := Int.eq_ofNat_of_zero_le (show 0 ≤ m by omega)
    obtain ⟨k, rfl⟩ := Int.eq_ofNat_of_zero_le (show 0 ≤ k by omega)
    have hm : m ≤ 60 := by omega
    have hk1 : 1 ≤ k := by omega
    have hk5 : k ≤ 5 := by omega
    clear hb
    go_enter Try.func93, Try.ntmps93
    go_wp2
    go_loopw [6, 23] (fun v q wr => ∃ j : Nat, j ≤ m ∧ q = .int .i64 j ∧ OwnS wr w.heap.size v (allW k j) ∧ Below w.heap.size w wr ∧ Hid (k ^ j ≤ 256)) (fun _ q _ => m - (intOf q).toNat)
    case atStart =>
      refine ⟨0, Nat.zero_le _, rfl, ?_, Below.new _ _, Lib.hid (by simp)⟩
      exact World.ownsRow_lit w #[.string ⟨#[]⟩] 1 (Nat.le_refl _) (by decide) (by simp)
    case round =>
      obtain ⟨j, hj, rfl, hown, hB, HP⟩ := hrel
      have hL := allW_len k j
      have hsz := allW_size k j
      have HS : Hid (∀ s ∈ allW k j, s.size ≤ 60) := Lib.hid fun s h => by have := hsz s h; omega
      have HN : Hid (nextW k (allW k j) = allW k (j + 1)) := Lib.hid rfl
      have hP := HP.out
      have HJ : Hid (j = m → allW k j = allW k m) := Lib.hid (fun h => by rw [h])
      generalize hA : allW k j = L at *
      have hlen : L.length ≤ 256 := by omega
      have hlen0 : 0 < L.length := by rw [hL]; exact pow_pos' hk1
      obtain ⟨g, cp, rfl, _, _, _, _, _, _⟩ := OwnS.row hown hlen0
      have HO := Lib.hid hown
      have hBz := hB.size
      by_cases hjm : j < m
      · have hmul : (L.length : Int) * (k : Int) = ((k ^ (j + 1) : Nat) : Int) := by rw [Nat.pow_succ, ← hL, Int.natCast_mul]
        have hle : L.length * k ≤ 256 * 5 := Nat.mul_le_mul hlen hk5
        have e0 : (0 : Int) ≤ (L.length : Int) * k := by rw [hmul]; omega
        have e1 : (L.length : Int) * k ≤ 1280 := by rw [← Int.natCast_mul]; omega
        by_cases hq : 256 < k ^ (j + 1)
        · have HL : Hid (wordsR (m : Int) (k : Int) = ([], 3)) := Lib.hid (wordsR_long hm hk1 hk5 (Nat.lt_of_lt_of_le hq (Nat.pow_le_pow_right hk1 (by omega))))
          have e2 : (256 : Int) < (L.length : Int) * k := by rw [hmul]; omega
          clear hmul hle hq hL hP hA hown hsz
          go_wp2_with fail
          go_ret2
          rw [HL.out]
          exact ⟨_, rfl, OwnS.nil _ _, hB⟩
        · have HP2 : Hid (k ^ (j + 1) ≤ 256) := Lib.hid (by omega)
          have e2 : (L.length : Int) * k ≤ 256 := by rw [hmul]; omega
          clear hmul hle hq hL hP hA hown hsz
          go_wp2_with fail
          refine (longer_any _ _ L k _ HO.out hlen hk5 HS.out).mono ?_
          rintro e w2 ⟨v2, rfl, o2, b2⟩
          rw [HN.out] at o2
          have HO2 := Lib.hid (OwnS.base o2 hBz)
          clear o2
          go_wp2_with fail
          go_roundw
          case rel => exact ⟨j + 1, by omega, by go_num, HO2.out, hB.then b2, HP2⟩
          case measure => simp [intOf]; omega
      · have hE : j = m := by omega
        have HE : Hid (wordsR (m : Int) (k : Int) = (L, 0)) := Lib.hid (by rw [wordsR_ok hm hk1 hk5 (by rw [← hE]; omega), HJ.out hE])
        clear hE hL hP hA hown hsz
        go_wp2_with fail
        go_ret2
        rw [HE.out]
        exact ⟨_, rfl, HO.out, hB⟩

set_option maxRecDepth 100000 in
set_option maxHeartbeats 4000000 in
theorem spec_WordsOf (m k : Int) (w : World) (wm : (Lit.int .i64 m).wf = true) (wk : (Lit.int .i64 k).wf = true) :
    Calls Try.prog 94 #[.int .i64 m, .int .i64 k] w (RetS (wordsR m k).1 (wordsR m k).2 w) := by
  by_cases hb : m < 0 ∨ 60 < m ∨ k < 1 ∨ 5 < k
  · rw [wordsR_out hb]
    by_cases hm : 0 ≤ m ∧ m ≤ 60
    · obtain ⟨h1, h2⟩ := hm
      have HB : Hid (¬ (1 ≤ k ∧ k ≤ 5)) := Lib.hid (by omega)
      clear hb
      go_enter Try.func94, Try.ntmps94
      go_wp2_with fail
      refine (l01In_yes' m 0 60 _ h1 h2).mono ?_
      rintro e w1 ⟨rfl, rfl⟩
      go_wp2_with fail
      refine (l01In_no' k 1 5 _ HB.out).mono ?_
      rintro e w1 ⟨rfl, rfl⟩
      go_wp2_with fail
      go_ret2
      exact ⟨_, rfl, OwnS.nil _ _, Below.refl _ _⟩
    · have HM := Lib.hid hm
      clear hb hm
      go_enter Try.func94, Try.ntmps94
      go_wp2_with fail
      refine (l01In_no' m 0 60 _ HM.out).mono ?_
      rintro e w1 ⟨rfl, rfl⟩
      go_wp2_with fail
      go_ret2
      exact ⟨_, rfl, OwnS.nil _ _, Below.refl _ _⟩
  · obtain ⟨m, rfl⟩ := Int.eq_ofNat_of_zero_le (show 0 ≤ m by omega)
    obtain ⟨k, rfl⟩ := Int.eq_ofNat_of_zero_le (show 0 ≤ k by omega)
    have hm : m ≤ 60 := by omega
    have hk1 : 1 ≤ k := by omega
    have hk5 : k ≤ 5 := by omega
    clear hb
    go_enter Try.func94, Try.ntmps94
    go_wp2_with fail
    refine (l01In_yes' _ 0 60 _ (by omega) (by omega)).mono ?_
    rintro e w1 ⟨rfl, rfl⟩
    go_wp2_with fail
    refine (l01In_yes' _ 1 5 _ (by omega) (by omega)).mono ?_
    rintro e w1 ⟨rfl, rfl⟩
    go_wp2_with fail
    go_loopw [6, 7] (fun v q wr => ∃ (i c : Nat), i ≤ m ∧ q = .int .i64 i ∧ v = .int .i64 c ∧ c ≤ 1280 ∧ wr = w ∧ Hid (c = k ^ i)) (fun _ q _ => m - (intOf q).toNat)
    case atStart => exact ⟨0, 1, Nat.zero_le _, rfl, rfl, by omega, rfl, Lib.hid (by simp)⟩
    case round =>
      obtain ⟨i, c, him, rfl, rfl, hc, rfl, HC⟩ := hrel
      by_cases h1 : i < m
      · by_cases h2 : c ≤ 256
        · have hmul : c * k ≤ 256 * 5 := Nat.mul_le_mul h2 hk5
          have hcast : ((c * k : Nat) : Int) = (c : Int) * (k : Int) := Int.natCast_mul _ _
          have e0 : (0 : Int) ≤ (c : Int) * k := by omega
          have e1 : (c : Int) * k ≤ 1280 := by omega
          have hc2 : c * k ≤ 1280 := by omega
          have HC2 : Hid (c * k = k ^ (i + 1)) := Lib.hid (by rw [Nat.pow_succ, HC.out])
          clear hcast hmul
          go_wp2_with fail
          go_roundw
          case rel => exact ⟨i + 1, c * k, by omega, by go_num, by go_num, hc2, by first | rfl | trivial, HC2⟩
          case measure => simp [intOf]; omega
        · have HL : Hid (wordsR (m : Int) (k : Int) = ([], 3)) := Lib.hid (wordsR_long hm hk1 hk5 (Nat.lt_of_lt_of_le (by rw [← HC.out]; omega) (Nat.pow_le_pow_right hk1 (by omega : i ≤ m))))
          have hd : decide ((c : Int) ≤ 256) = false := by simp; omega
          go_wp2_with fail
          go_ret2
          rw [HL.out]
          exact ⟨_, rfl, OwnS.nil _ _, Below.refl _ _⟩
      · have hE : i = m := by omega
        have hd1 : decide ((i : Int) < (m : Int)) = false := by simp; omega
        by_cases h2 : c ≤ 256
        · have HP : Hid (k ^ m ≤ 256) := Lib.hid (by rw [← hE, ← HC.out]; exact h2)
          have HE : Hid (wordsR (m : Int) (k : Int) = (allW k m, 0)) := Lib.hid (wordsR_ok hm hk1 hk5 (by have := HP.out; omega))
          clear hE
          go_wp2_with fail
          refine (l01All_any m k _ hm hk1 hk5 HP.out).mono ?_
          rintro e w2 ⟨v2, rfl, o2, b2⟩
          go_wp2_with fail
          go_ret2
          rw [HE.out]
          exact ⟨_, rfl, o2, b2⟩
        · have HL : Hid (wordsR (m : Int) (k : Int) = ([], 3)) := Lib.hid (wordsR_long hm hk1 hk5 (by rw [← hE, ← HC.out]; omega))
          clear hE
          go_wp2_with fail
          go_ret2
          rw [HL.out]
          exact ⟨_, rfl, OwnS.nil _ _, Below.refl _ _⟩

end Go.Proofs.Ytlaefpmfbnldfab

/-! ### Letters -/
namespace Go.Proofs.Ytlaefpmfbnldfab
set_option linter.unusedVariables false
set_option linter.unusedSimpArgs false
open Go.RowKit

set_option maxRecDepth 100000 in
theorem impl_LettersOf (x : ByteArray) (w : World) (sx : x.size ≤ maxLen) :
    Calls Try.prog 55 #[.string x] w (RetI (lettersR x).1 (lettersR x).2 w) := by
  by_cases h : IsW x
  · rw [lettersR_ok h]
    have H := Lib.hid h
    clear h
    go_enter Try.func55, Try.ntmps55
    go_wp2_with fail
    refine (isWord_yes x _ H.out).mono ?_
    rintro e w1 ⟨rfl, b1⟩
    go_wp2_with fail
    refine (numbersOf_any x _ H.out).mono ?_
    rintro e w2 ⟨v, rfl, o2, b2⟩
    go_wp2_with fail
    go_ret2
    exact ⟨v, rfl, o2.base b1.size, b1.then b2⟩
  · rw [lettersR_bad h]
    have H := Lib.hid h
    clear h
    go_enter Try.func55, Try.ntmps55
    go_wp2_with (go_at_call 52; refine (isWord_not x _ sx H.out).mono ?_; rintro e w1 ⟨rfl, b1⟩)
    go_ret2
    exact ⟨_, rfl, OwnI.nil _ _, b1⟩

set_option maxRecDepth 100000 in
set_option maxHeartbeats 1000000 in
theorem spec_LettersOf (x : ByteArray) (w : World) (sx : x.size ≤ maxLen) :
    Calls Try.prog 97 #[.string x] w (RetI (lettersR x).1 (lettersR x).2 w) := by
  by_cases h : IsW x
  · obtain ⟨i0, hi, hz0, hz1, hz2⟩ := info_parts infoI64
    have h1 := h.size
    rw [lettersR_ok h]
    have H := Lib.hid h
    clear h
    go_enter Try.func97, Try.ntmps97
    go_wp2_with fail
    refine (l01Is_yes x _ H.out).mono ?_
    rintro e w1 ⟨rfl, b1⟩
    go_wp2_with fail
    have hz := b1.size
    go_loopw [4, 5] (fun v i wr => ∃ k : Nat, k ≤ x.size ∧ i = .int .i64 k ∧ wr.ownsRow w.heap.size 2 1 v k (((numsR x).take k).map (Value.int .i64)) ∧ Below w.heap.size w wr)
      (fun _ i _ => x.size - (intOf i).toNat)
    case atStart =>
      refine ⟨0, Nat.zero_le _, rfl, ?_, b1.alloc hz _⟩
      exact World.ownsRow_lit w1 #[] 0 hz (by decide) (by simp)
    case round =>
      obtain ⟨k, hk, rfl, hown, hB⟩ := hrel
      by_cases hp : k < x.size
      · have hsn := nums_snoc (numsR x) k (by rw [numsR_len]; exact hp)
        rw [numsR_get x k _ hp] at hsn
        have HS := Lib.hid hsn
        clear hsn
        have hbz := hB.size
        go_wp2_with fail
        refine (l01At_any x k _ hp h1).mono ?_
        rintro e w2 ⟨rfl, b2⟩
        have hown := own_below hown b2
        have hB := hB.then b2
        have hbz := hB.size
        go_wp2_with (at_builtin; refine wpList_append_own _ rfl _ _ 30 rfl w.heap.size 2 i0 (.int .i64 0) 1 8 Try.underlying30 hi hz0 hz1 hz2 rfl (by decide) _ _ _ rfl (hown.alloc _) ⟨_, 0, none⟩ 1 1 [.int .i64 (((x[k]'hp).toNat : Int) - 97)] rfl rfl (cell_new _ _ _) (by intro u hu; simp at hu; subst hu; rfl) (by unfold maxLen; omega) (by omega) (by simp; omega) ?_; intro v' w3 hown' hgrow _)
        go_roundw
        case rel =>
          refine ⟨k + 1, by omega, by go_num, by rw [← HS.out]; exact hown', ?_⟩
          exact (hB.alloc hbz _).grown hgrow (by simp; omega) (fun q hq => (hown.lt q hq).1)
        case measure => simp [intOf]; omega
      · have hke : k = x.size := by omega
        subst hke
        have HO := Lib.hid hown
        clear hown
        go_wp2
        go_ret2
        refine ⟨_, rfl, ?_, hB⟩
        have h2 := HO.out
        rw [List.take_of_length_le (by rw [numsR_len]; exact Nat.le_refl _)] at h2
        unfold OwnI
        rw [numsR_len]
        exact h2
  · rw [lettersR_bad h]
    have H := Lib.hid h
    clear h
    go_enter Try.func97, Try.ntmps97
    go_wp2_with (go_at_call 117; refine (l01Is_no x _ sx H.out).mono ?_; rintro e w1 ⟨rfl, b1⟩)
    go_ret2
    exact ⟨_, rfl, OwnI.nil _ _, b1⟩

end Go.Proofs.Ytlaefpmfbnldfab

/-! ### Count -/
namespace Go.Proofs.Ytlaefpmfbnldfab
set_option linter.unusedVariables false
set_option linter.unusedSimpArgs false
open Go.RowKit


set_option maxRecDepth 100000 in
set_option maxHeartbeats 1000000 in
theorem l01Count_any (x : ByteArray) (w : World) (h : IsW x) :
    Calls Try.prog 154 #[.string x] w fun e w' => ∃ v, e = .returned v ∧ OwnI w' w.heap.size v (cntK x x.size) ∧ Below w.heap.size w w' := by
  obtain ⟨i0, hi, hz0, hz1, hz2⟩ := info_parts infoI64
  have h1 := h.size
  have H := Lib.hid h
  clear h
  go_enter Try.func154, Try.ntmps154
  go_wp2_with (at_make; refine wpList_make_full _ rfl _ _ 30 rfl w.heap.size 2 i0 (.int .i64 0) 1 Try.underlying30 hi hz0 hz1 .i64 .i64 5 5 5 rfl rfl rfl rfl (by rw [hz2]; decide) (by decide) (Nat.le_refl _) ?_; intro w1 hown hgrow)
  have hown0 : w1.ownsRow w.heap.size 2 1 (.slice (some ⟨w.heap.size, 0, none⟩) 5 5) 5 ((cntK x 0).map (Value.int .i64)) := by
    have h2 := hown
    rw [show (Value.int .i64 0).cells = #[Value.int .i64 0] from rfl, toList_madeCells_one] at h2
    rw [cntK_zero]
    exact h2
  clear hown
  have B1 : Below w.heap.size w w1 := (Below.refl _ _).grown hgrow (Nat.le_refl _) (fun _ e => by cases e)
  clear hgrow
  go_loopw [4] (fun i wr => ∃ k : Nat, k ≤ x.size ∧ i = .int .i64 k ∧ wr.ownsRow w.heap.size 2 1 (.slice (some ⟨w.heap.size, 0, none⟩) 5 5) 5 ((cntK x k).map (Value.int .i64)) ∧ Below w.heap.size w wr)
    (fun i _ => x.size - (intOf i).toNat)
  case atStart => exact ⟨0, Nat.zero_le _, rfl, hown0, B1⟩
  case round =>
    obtain ⟨k, hk, rfl, hown, hB⟩ := hrel
    clear hown0 B1
    by_cases hp : k < x.size
    · go_wp2_with fail
      refine (l01At_any x k _ hp h1).mono ?_
      rintro e w2 ⟨rfl, b2⟩
      have hown := own_below hown b2
      have hB := hB.then b2
      have hcl := cntK_len x k
      have hlo := H.out.lo k hp
      have hhi := H.out.hi k hp
      obtain ⟨n, hn⟩ : ∃ n : Nat, ((x[k]'hp).toNat : Int) = (n : Int) + 97 := ⟨(x[k]'hp).toNat - 97, by omega⟩
      have hn4 : n ≤ 4 := by omega
      have hsucc : bump (cntK x k) (n : Int) = cntK x (k + 1) := by rw [cntK_succ x k hp, show ((x[k]'hp).toNat : Int) - 97 = (n : Int) from by omega]
      have hbd := cntK_bd x k (Nat.le_of_lt hp) n
      have k1 : w2.cell? ⟨w.heap.size, n, none⟩ = some (.int .i64 ((cntK x k).getD n 0)) := by
        rw [hown.cellAt n (by omega)]
        simp [List.getD_eq_getElem?_getD, List.getElem?_eq_getElem (show n < (cntK x k).length by omega)]
      have k2 : w2.frozen? ⟨w.heap.size, n, none⟩ = false := hown.frozenAt n
      have hst := hown.stored n (.int .i64 ((cntK x k).getD n 0 + 1))
      rw [bump_map, show bump (cntK x k) n = bump (cntK x k) (n : Int) from rfl, hsucc] at hst
      generalize (cntK x k).getD n 0 = z at k1 hst hbd
      obtain ⟨z0, z1⟩ := hbd
      have e1 : ((x[k]'hp).toNat : Int) - 97 = n := by omega
      have HS := Lib.hid hst
      have HN := Lib.hid hsucc
      clear hst hown hsucc hn hcl
      rw [e1]
      clear e1
      go_wp2
      go_roundw
      case rel =>
        refine ⟨k + 1, by omega, by go_num, HS.out.1, ?_⟩
        exact hB.setCell (p := ⟨w.heap.size, n, none⟩) (Nat.le_refl _) _
      case measure => simp [intOf]; omega
    · have hke : k = x.size := by omega
      subst hke
      have HO := Lib.hid hown
      clear hown
      go_wp2
      go_ret
      refine ⟨_, rfl, ?_, hB⟩
      unfold OwnI
      rw [cntK_len]
      exact HO.out

set_option maxRecDepth 100000 in
theorem spec_CountLetters (x : ByteArray) (w : World) (sx : x.size ≤ maxLen) :
    Calls Try.prog 96 #[.string x] w (RetI (countR x).1 (countR x).2 w) := by
  by_cases h : IsW x
  · rw [countR_ok h]
    have H := Lib.hid h
    clear h
    go_enter Try.func96, Try.ntmps96
    go_wp2_with fail
    refine (l01Is_yes x _ H.out).mono ?_
    rintro e w1 ⟨rfl, b1⟩
    go_wp2_with fail
    refine (l01Count_any x _ H.out).mono ?_
    rintro e w2 ⟨v, rfl, o2, b2⟩
    go_wp2_with fail
    go_ret2
    exact ⟨v, rfl, o2.base b1.size, b1.then b2⟩
  · rw [countR_bad h]
    have H := Lib.hid h
    clear h
    go_enter Try.func96, Try.ntmps96
    go_wp2_with (go_at_call 117; refine (l01Is_no x _ sx H.out).mono ?_; rintro e w1 ⟨rfl, b1⟩)
    go_ret2
    exact ⟨_, rfl, OwnI.nil _ _, b1⟩

set_option maxRecDepth 100000 in
set_option maxHeartbeats 1000000 in
theorem impl_CountLetters (x : ByteArray) (w : World) (sx : x.size ≤ maxLen) :
    Calls Try.prog 57 #[.string x] w (RetI (countR x).1 (countR x).2 w) := by
  by_cases h : IsW x
  · obtain ⟨i0, hi, hz0, hz1, hz2⟩ := info_parts infoI64
    have h1 := h.size
    rw [countR_ok h]
    have H := Lib.hid h
    clear h
    go_enter Try.func57, Try.ntmps57
    go_wp2_with fail
    refine (isWord_yes x _ H.out).mono ?_
    rintro e w1 ⟨rfl, b1⟩
    have hz := b1.size
    go_wp2_with (at_make; refine wpList_make_full _ rfl _ _ 30 rfl w.heap.size 2 i0 (.int .i64 0) 1 Try.underlying30 hi hz0 hz1 .i64 .i64 5 5 5 rfl rfl rfl rfl (by rw [hz2]; decide) (by decide) hz ?_; intro w2 hown hgrow)
    have hown0 : w2.ownsRow w.heap.size 2 1 (.slice (some ⟨w1.heap.size, 0, none⟩) 5 5) 5 ((cntK x 0).map (Value.int .i64)) := by
      have h2 := hown
      rw [show (Value.int .i64 0).cells = #[Value.int .i64 0] from rfl, toList_madeCells_one] at h2
      rw [cntK_zero]
      exact h2
    clear hown
    have B2 : Below w.heap.size w w2 := b1.grown hgrow hz (fun _ e => by cases e)
    have hz2' : w1.heap.size < w2.heap.size := by
      rcases own_forms hown0 with ⟨h, _⟩ | ⟨g, cap, h, _, h3, _⟩
      · cases h
      · cases h; exact h3
    clear hgrow
    generalize hG : w1.heap.size = G at *
    clear hG
    go_loopw [] (fun wr => ∃ k : Nat, k ≤ x.size ∧ wr.heap[w2.heap.size]? = some (.stringIter x k) ∧ wr.ownsRow w.heap.size 2 1 (.slice (some ⟨G, 0, none⟩) 5 5) 5 ((cntK x k).map (Value.int .i64)) ∧ Below w.heap.size w wr)
      (fun wr => x.size - wr.iterPos w2.heap.size)
    case atStart => exact ⟨0, Nat.zero_le _, World.iter_heap w2 x 0, hown0.alloc _, B2.alloc B2.size _⟩
    case round =>
      obtain ⟨k, hk, hit, hown, hB⟩ := hrel
      have hle := B2.size
      clear hown0 B2 b1
      by_cases hp : k < x.size
      · have hnx : ∀ ty, (Instr.next (.pointer (some ⟨w2.heap.size, 0, none⟩)) true ty).run Try.prog wr = _ := fun ty => Lib.run_next_ascii_at wr w2.heap.size x k ty hit hp (by have := H.out.hi k hp; omega)
        have hit2 := Lib.iterAt_heap wr w2.heap.size x k (k + 1) hit
        have hB2 := Lib.below_iterAt hB hle x (k + 1)
        have hown := ownsRow_iterAt' hown hit (k + 1)
        have HIT := Lib.hid hit
        have HIT2 := Lib.hid hit2
        clear hit hit2 hB
        generalize hgw : wr.iterAt w2.heap.size x (k + 1) = wi at *
        have HG := Lib.hid hgw
        clear hgw
        have hcl := cntK_len x k
        have hlo := H.out.lo k hp
        have hhi := H.out.hi k hp
        obtain ⟨n, hn⟩ : ∃ n : Nat, ((x[k]'hp).toNat : Int) = (n : Int) + 97 := ⟨(x[k]'hp).toNat - 97, by omega⟩
        have hn4 : n ≤ 4 := by omega
        have hsucc : bump (cntK x k) (n : Int) = cntK x (k + 1) := by rw [cntK_succ x k hp, show ((x[k]'hp).toNat : Int) - 97 = (n : Int) from by omega]
        have hbd := cntK_bd x k (Nat.le_of_lt hp) n
        have k1 : wi.cell? ⟨G, n, none⟩ = some (.int .i64 ((cntK x k).getD n 0)) := by
          rw [hown.cellAt n (by omega)]
          simp [List.getD_eq_getElem?_getD, List.getElem?_eq_getElem (show n < (cntK x k).length by omega)]
        have k2 : wi.frozen? ⟨G, n, none⟩ = false := hown.frozenAt n
        have hst := hown.stored n (.int .i64 ((cntK x k).getD n 0 + 1))
        rw [bump_map, show bump (cntK x k) n = bump (cntK x k) (n : Int) from rfl, hsucc] at hst
        generalize (cntK x k).getD n 0 = z at k1 hst hbd
        obtain ⟨z0, z1⟩ := hbd
        have e1 : ((x[k]'hp).toNat : Int) - 97 = n := by omega
        have hGB : w.heap.size ≤ G := by
          rcases own_forms hown with ⟨h, _⟩ | ⟨g, cap, h, h2, _⟩
          · cases h
          · cases h; exact h2
        have HS := Lib.hid hst
        have HN := Lib.hid hsucc
        clear hst hown hsucc hcl
        have E1 := e1
        clear hn
        go_wp2
        go_roundw
        case rel =>
          refine ⟨k + 1, by omega, ?_, HS.out.1, ?_⟩
          · rw [Below.heap_setCell _ _ _ _ (by simp; omega)]; exact HIT2.out
          · exact hB2.setCell (p := ⟨G, n, none⟩) hGB _
        case measure =>
          have hh : (wi.setCell ⟨G, n, none⟩ (.int .i64 (z + 1))).heap[w2.heap.size]? = some (.stringIter x (k + 1)) := by
            rw [Below.heap_setCell _ _ _ _ (by simp; omega)]; exact HIT2.out
          simp only [World.iterPos, hh, HIT.out]; omega
      · have hke : k = x.size := by omega
        subst hke
        have hnx : ∀ ty, (Instr.next (.pointer (some ⟨w2.heap.size, 0, none⟩)) true ty).run Try.prog wr = _ := fun ty => Lib.run_next_end_at wr w2.heap.size x x.size ty hit hp
        have HO := Lib.hid hown
        clear hown
        go_wp2
        go_ret2
        refine ⟨_, rfl, ?_, hB⟩
        unfold OwnI
        rw [cntK_len]
        exact HO.out
  · rw [countR_bad h]
    have H := Lib.hid h
    clear h
    go_enter Try.func57, Try.ntmps57
    go_wp2_with (go_at_call 52; refine (isWord_not x _ sx H.out).mono ?_; rintro e w1 ⟨rfl, b1⟩)
    go_ret2
    exact ⟨_, rfl, OwnI.nil _ _, b1⟩

end Go.Proofs.Ytlaefpmfbnldfab

/-! ### Reverse -/
namespace Go.Proofs.Ytlaefpmfbnldfab
set_option linter.unusedVariables false
set_option linter.unusedSimpArgs false
open Go.RowKit

def revR (x : ByteArray) : ByteArray × Int := if ¬ IsW x then (tE, 1) else (rev x, 0)
theorem revR_bad {x : ByteArray} (h : ¬ IsW x) : revR x = (⟨#[]⟩, 1) := if_pos h
theorem revR_ok {x : ByteArray} (h : IsW x) : revR x = (rev x, 0) := by unfold revR; rw [if_neg (not_not_intro h)]

theorem _root_.Go.World.grownBy.trans_drew {w w' : World} {r : Option Nat} (h : w.grownBy w' r) : w.grownBy w'.drew r := ⟨h.os, h.tape, h.output, h.size, h.block⟩
theorem two_sets {w : World} {g i j : Nat} {v u x y : Value} (hi : w.cell? ⟨g, i, none⟩ = some x) (hj : w.cell? ⟨g, j, none⟩ = some y) (hij : i ≠ j) (p : Nat) :
    ((w.setCell ⟨g, i, none⟩ v).setCell ⟨g, j, none⟩ u).cell? ⟨g, p, none⟩ = if p = j then some u else if p = i then some v else w.cell? ⟨g, p, none⟩ := by
  have ne : ∀ {a b : Nat}, a ≠ b → (⟨g, a, none⟩ : Addr) ≠ ⟨g, b, none⟩ := fun h e => h (by injection e)
  by_cases h1 : p = j
  · subst h1
    rw [if_pos rfl]
    exact World.cell?_setCell_same _ _ _ (u := y) (by rw [World.cell?_setCell_other (h := ne hij)]; exact hj)
  · rw [if_neg h1, World.cell?_setCell_other (h := ne (Ne.symm h1))]
    by_cases h2 : p = i
    · subst h2
      rw [if_pos rfl]
      exact World.cell?_setCell_same _ _ _ (u := x) hi
    · rw [if_neg h2, World.cell?_setCell_other (h := ne (Ne.symm h2))]

/-- The byte at place p of n when the first i pairs have been exchanged. -/
def rvk (l : List UInt8) (i p : Nat) : Int := if p < i ∨ l.length ≤ p + i then ((l.getD (l.length - 1 - p) 0).toNat : Int) else ((l.getD p 0).toNat : Int)

set_option maxRecDepth 100000 in
set_option maxHeartbeats 2000000 in
theorem reverse_any (g cap : Nat) (l : List UInt8) (w : World) (hg : g < w.heap.size) (hl : l.length ≤ 60) (hc : l.length ≤ cap)
    (cell : ∀ p, p < l.length → w.cell? ⟨g, p, none⟩ = some (.int .u8 ((l.getD p 0).toNat : Int))) (fz : ∀ p, p < l.length → w.frozen? ⟨g, p, none⟩ = false) :
    Calls Try.prog 132 #[.slice (some ⟨g, 0, none⟩) l.length cap] w fun e w' => e = .returned (.tuple #[]) ∧ (∀ p, p < l.length → w'.cell? ⟨g, p, none⟩ = some (.int .u8 ((l.getD (l.length - 1 - p) 0).toNat : Int))) ∧ w.grownBy w' (some g) := by
  have C := Lib.hid cell
  have Z := Lib.hid fz
  clear cell fz
  generalize hN : l.length = N at *
  have HN := Lib.hid hN
  clear hN
  go_enter Try.func132, Try.ntmps132
  go_wp2
  go_loopw [2, 3] (fun i j wr => ∃ k : Nat, k ≤ N ∧ i = .int .i64 k ∧ j = .int .i64 ((N : Int) - 1 - k) ∧ 2 * k ≤ N + 1 ∧ Hid (∀ p, p < N → wr.cell? ⟨g, p, none⟩ = some (.int .u8 (rvk l k p))) ∧ Hid (∀ p, p < N → wr.frozen? ⟨g, p, none⟩ = false) ∧ w.grownBy wr (some g))
    (fun i j _ => ((intOf j) - (intOf i) + 2).toNat)
  case atStart =>
    refine ⟨0, Nat.zero_le _, rfl, by simp, by omega, Lib.hid fun p hp => ?_, Z, grown_refl _ _⟩
    rw [C.out p hp]
    have := HN.out
    unfold rvk
    rw [if_neg (by omega)]
  case round =>
    obtain ⟨k, hk, rfl, rfl, hk2, hC, hZ, hG⟩ := hrel
    by_cases hlt : 2 * k + 1 < N
    · obtain ⟨m, hm⟩ : ∃ m : Nat, (N : Int) - 1 - k = m := ⟨N - 1 - k, by omega⟩
      have hmk : k < m := by omega
      have hmN : m < N := by omega
      have c1 := hC.out k (by omega)
      have c2 := hC.out m hmN
      have f1 := hZ.out k (by omega)
      have f2 := hZ.out m hmN
      generalize hz1 : rvk l k k = z1 at c1
      generalize hz2 : rvk l k m = z2 at c2
      have HZ1 := Lib.hid hz1
      have HZ2 := Lib.hid hz2
      have HM := Lib.hid hm
      have hcc : m < cap := by omega
      rw [hm]
      clear hz1 hz2 hm
      go_wp2
      go_region
      all_goals
        go_wp2
        go_roundw
        case rel =>
          have hm := HM.out
          have hn := HN.out
          refine ⟨k + 1, by omega, by go_num, by go_num, by omega, Lib.hid fun p hp => ?_, Lib.hid fun p hp => ?_, ?_⟩
          · rw [World.cell?_drew, two_sets c1 c2 (by omega) p]
            by_cases e1 : p = m
            · subst e1
              rw [if_pos rfl, ← HZ1.out]
              unfold rvk
              rw [if_neg (by omega), if_pos (by omega), show l.length - 1 - p = k by omega]
            · rw [if_neg e1]
              by_cases e2 : p = k
              · subst e2
                rw [if_pos rfl, ← HZ2.out]
                unfold rvk
                rw [if_neg (by omega), if_pos (by omega), show l.length - 1 - p = m by omega]
              · rw [if_neg e2, hC.out p hp]
                unfold rvk
                by_cases h3 : p < k ∨ l.length ≤ p + k
                · rw [if_pos h3, if_pos (by omega)]
                · rw [if_neg h3, if_neg (by omega)]
          · simpa using hZ.out p hp
          · exact (grown_set (grown_set hG _ _) _ _).trans_drew
        case measure => simp [intOf]; have := HM.out; omega
    · have hd : decide ((k : Int) < (N : Int) - 1 - k) = false := by simp; omega
      go_wp2
      go_end0
      refine ⟨rfl, fun p hp => ?_, hG⟩
      have hn := HN.out
      rw [hC.out p hp]
      unfold rvk
      by_cases h3 : p < k ∨ l.length ≤ p + k
      · rw [if_pos h3, hn]
      · rw [if_neg h3, show N - 1 - p = p by omega]

set_option maxRecDepth 100000 in
theorem spec_ReverseOf (x : ByteArray) (w : World) (sx : x.size ≤ maxLen) :
    Calls Try.prog 98 #[.string x] w fun e w' => e = .returned (.tuple #[.string (revR x).1, .int .i64 (revR x).2]) ∧ Below w.heap.size w w' := by
  by_cases h : IsW x
  · rw [revR_ok h]
    have h1 := h.size
    have H := Lib.hid h
    clear h
    go_enter Try.func98, Try.ntmps98
    go_wp2_with fail
    refine (l01Is_yes x _ H.out).mono ?_
    rintro e w1 ⟨rfl, b1⟩
    go_wp2_with fail
    refine (l01Reversed_any x _ h1).mono ?_
    rintro e w2 ⟨rfl, b2⟩
    go_wp2_with fail
    go_ret2
    exact ⟨rfl, b1.then b2⟩
  · rw [revR_bad h]
    have H := Lib.hid h
    clear h
    go_enter Try.func98, Try.ntmps98
    go_wp2_with fail
    refine (l01Is_no x _ sx H.out).mono ?_
    rintro e w1 ⟨rfl, b1⟩
    go_wp2_with fail
    go_ret2
    exact ⟨rfl, b1⟩

set_option maxRecDepth 100000 in
set_option maxHeartbeats 2000000 in
theorem impl_ReverseOf (x : ByteArray) (w : World) (sx : x.size ≤ maxLen) :
    Calls Try.prog 54 #[.string x] w fun e w' => e = .returned (.tuple #[.string (revR x).1, .int .i64 (revR x).2]) ∧ Below w.heap.size w w' := by
  by_cases h : IsW x
  · rw [revR_ok h]
    have h1 := h.size
    have H := Lib.hid h
    clear h
    go_enter Try.func54, Try.ntmps54
    go_wp2_with fail
    refine (isWord_yes x _ H.out).mono ?_
    rintro e w1 ⟨rfl, b1⟩
    have hcv := run_bytes_of_string (P := Try.prog) w1 9 25 5 x Try.underlying9 Try.underlying25 Try.underlying5
    have hrs : (bytesRow x (grownCap w1 x.size 0 5)).size = x.size + (grownCap w1 x.size 0 5 - x.size) := by unfold bytesRow; rw [Array.size_append, Array.size_map, Array.size_replicate]; rfl
    generalize hcp : grownCap w1 x.size 0 5 = cap at hcv hrs
    have hce : x.size ≤ cap := by rw [← hcp]; exact grownCap_ge _ _ _ _
    clear hcp
    have hlen : x.data.toList.length = x.size := rfl
    have cellf : ∀ p, p < x.size → (w1.drew.alloc (.cells (bytesRow x cap) 5 ((bytesRow x cap).size, (bytesRow x cap).size + 1))).cell? ⟨w1.heap.size, p, none⟩ = some (.int .u8 ((x.data.toList.getD p 0).toNat : Int)) := by
      intro p hp
      have := World.cell?_alloc_mark w1.drew (bytesRow x cap) 5 ((bytesRow x cap).size, (bytesRow x cap).size + 1) p
      rw [show w1.drew.heap.size = w1.heap.size from rfl] at this
      rw [this]
      unfold bytesRow
      have hp' : p < x.data.size := hp
      rw [Array.getElem?_append_left (by rw [Array.size_map]; exact hp'), Array.getElem?_map, Array.getElem?_eq_getElem hp', List.getD_eq_getElem?_getD, List.getElem?_eq_getElem (show p < x.data.toList.length from hp')]
      rfl
    have fzf : ∀ p, p < x.size → (w1.drew.alloc (.cells (bytesRow x cap) 5 ((bytesRow x cap).size, (bytesRow x cap).size + 1))).frozen? ⟨w1.heap.size, p, none⟩ = false := by
      intro p hp
      have hh : (w1.drew.alloc (.cells (bytesRow x cap) 5 ((bytesRow x cap).size, (bytesRow x cap).size + 1))).heap[w1.heap.size]? = some (.cells (bytesRow x cap) 5 ((bytesRow x cap).size, (bytesRow x cap).size + 1)) := heap_alloc_new _ _
      unfold World.frozen?
      rw [hh]
      have : p < (bytesRow x cap).size := by rw [hrs]; omega
      simp
      omega
    have hn : (w1.drew.alloc (.cells (bytesRow x cap) 5 ((bytesRow x cap).size, (bytesRow x cap).size + 1))).heap.size = w1.heap.size + 1 := by simp
    have B2 : Below w.heap.size w (w1.drew.alloc (.cells (bytesRow x cap) 5 ((bytesRow x cap).size, (bytesRow x cap).size + 1))) := (b1.drew).alloc b1.size _
    generalize hW : (w1.drew.alloc (.cells (bytesRow x cap) 5 ((bytesRow x cap).size, (bytesRow x cap).size + 1))) = w2 at *
    have CF := Lib.hid cellf
    have FF := Lib.hid fzf
    have HN := Lib.hid hn
    have hwG := b1.size
    clear cellf fzf hn hW b1 hrs hlen
    generalize hG : w1.heap.size = G at *
    clear hG
    go_wp2_with fail
    refine (reverse_any G cap x.data.toList _ (by have := HN.out; omega) h1 hce CF.out FF.out).mono ?_
    rintro e w3 ⟨rfl, hc3, hg3⟩
    have B3 : Below w.heap.size w w3 := B2.grown hg3 B2.size (fun q hq => by injection hq with hq; omega)
    have hrl : (rev x).data.toList.length = x.size := by rw [← rev_size x]; rfl
    have hcv2 : (convert 25 9 (.slice (some ⟨G, 0, none⟩) x.size cap)).run Try.prog w3 = .ok (.string (rev x)) w3 := by
      have h4 := run_convert_bytes_back (P := Try.prog) w3 25 9 5 ⟨G, 0, none⟩ cap (rev x).data.toList Try.underlying25 Try.underlying5 Try.underlying9 (by
        intro j hj
        have hj2 : j < x.size := by omega
        have h5 := hc3 j hj2
        rw [show ((⟨G, 0, none⟩ : Addr).add j) = ⟨G, j, none⟩ by simp [Addr.add]; exact fun h => h.symm, h5]
        have h6 : x.data.toList.length - 1 - j < x.data.toList.length := by
          have : x.data.toList.length = x.size := rfl
          omega
        rw [List.getD_eq_getElem?_getD, List.getElem?_eq_getElem h6]
        have h7 := rev_get x j (by rw [rev_size]; exact hj2) (by omega)
        exact congrArg (fun b : UInt8 => some (Value.int .u8 (b.toNat : Int))) h7.symm)
      rw [hrl] at h4
      simpa using h4
    have HC3 := Lib.hid hc3
    clear hc3 hrl hcv
    go_wp2_with fail
    go_ret2
    exact ⟨rfl, B3⟩
  · rw [revR_bad h]
    have H := Lib.hid h
    clear h
    go_enter Try.func54, Try.ntmps54
    go_wp2_with fail
    refine (isWord_not x _ sx H.out).mono ?_
    rintro e w1 ⟨rfl, b1⟩
    go_wp2_with fail
    go_ret2
    exact ⟨rfl, b1⟩

end Go.Proofs.Ytlaefpmfbnldfab
