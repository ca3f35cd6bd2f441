/- In how many ways a word is scattered in another one: the program and the model. -/
import Derived.Test.YtedpbfddoobnnabInts
import Derived.Test.YtedpbfddoobnnabCscPlain
import Derived.Lib.OthersKept
import Derived.WalkSmall
import Derived.RegionTactic
import Derived.ChangeAlike
import Derived.IntWalk
namespace Go.Proofs.Ytedpbfddoobnnab
set_option linter.unusedVariables false
set_option linter.unusedSimpArgs false
open Go.RowKit

theorem made_cell {w : World} {B g n : Nat} (h : w.ownsRow B 2 1 (.slice (some ⟨g, 0, none⟩) n n) n (madeCells (Value.int .i64 0).cells (n * 1)).toList) (hn : 0 < n) : w.cell? ⟨g, 0, none⟩ = some (.int .i64 0) := by
  rw [h.cellAt 0 (by omega), show (Value.int .i64 0).cells = #[Value.int .i64 0] from rfl, toList_madeCells_one, Nat.mul_one]
  simp [hn]

set_option maxRecDepth 100000 in
set_option maxHeartbeats 4000000 in
theorem spec_CountScattered (x y : ByteArray) (w : World) (sx : x.size ≤ maxLen) (sy : y.size ≤ maxLen) :
    Calls Try.prog 18 #[.string x, .string y] w fun e w' => e = .returned (.tuple #[.int .i64 (cscR x y).1, .int .i64 (cscR x y).2]) ∧ Below w.heap.size w w' := by
  by_cases h1 : IsW x
  · by_cases h2 : IsW y
    · have s1 := h1.size
      have s2 := h2.size
      by_cases h6 : 6 < x.size
      · rw [cscR_long ⟨h1, h2⟩ h6]
        have H1 := Lib.hid h1
        have H2 := Lib.hid h2
        clear h1 h2
        go_enter Try.func18, Try.ntmps18
        go_wp2_with fail
        refine (l01Is_yes x _ H1.out).mono ?_
        rintro e w1 ⟨rfl, b1⟩
        go_wp2_with fail
        refine (l01Is_yes y _ H2.out).mono ?_
        rintro e w2 ⟨rfl, b2⟩
        have B2 := b1.then b2
        clear b1 b2
        go_wp2_with fail
        go_ret2
        exact ⟨rfl, B2⟩
      · obtain ⟨i0, hi, hz0, hz1, hz2⟩ := info_parts infoI64
        rw [cscR_ok ⟨h1, h2⟩ h6]
        have HY := Lib.hid h2
        have H1 := Lib.hid h1
        have H2 := Lib.hid h2
        clear h1 h2
        have h7 : x.size ≤ 6 := by omega
        clear h6
        go_enter Try.func18, Try.ntmps18
        go_wp2_with fail
        refine (l01Is_yes x _ H1.out).mono ?_
        rintro e w1 ⟨rfl, b1⟩
        go_wp2_with fail
        refine (l01Is_yes y _ H2.out).mono ?_
        rintro e w2 ⟨rfl, b2⟩
        have B2 := b1.then b2
        clear b1 b2
        have BX := B2
        have hBX := BX.size
        clear B2
        go_wp2_with (at_make; refine wpList_make_full _ rfl _ _ 35 rfl w.heap.size 2 i0 (.int .i64 0) 1 Try.underlying35 hi hz0 hz1 .i64 .i64 ((x.size : Int) + 1) ((x.size : Int) + 1) (x.size + 1) rfl rfl (by omega) (by omega) (by rw [hz2]; omega) (by unfold maxLen; omega) (hBX) ?_; intro wm hown hgrow; have k1 := made_cell hown (Nat.succ_pos _); have k2 := hown.frozenAt 0)
        have hown0 : wm.ownsRow w.heap.size 2 1 (.slice (some ⟨w2.heap.size, 0, none⟩) (x.size + 1) (x.size + 1)) (x.size + 1) ((List.replicate (x.size + 1) (0 : Int)).map (Value.int .i64)) := by
          have h2 := hown
          rw [show (Value.int .i64 0).cells = #[Value.int .i64 0] from rfl, toList_madeCells_one, Nat.mul_one] at h2
          rw [List.map_replicate]
          exact h2
        have Bm : Below w.heap.size w wm := BX.grown hgrow BX.size (fun _ e => by cases e)
        have hGm : w2.heap.size < wm.heap.size := by
          rcases own_forms hown0 with ⟨h, _⟩ | ⟨g, cap, h, _, h3, _⟩
          · cases h
          · cases h; exact h3
        have hwG : w.heap.size ≤ w2.heap.size := BX.size
        clear hown hgrow
        generalize hG : w2.heap.size = G at *
        clear hG
        have hst := (hown0.stored 0 (.int .i64 1)).1
        rw [show (((List.replicate (x.size + 1) (0 : Int)).map (Value.int .i64)).set 0 (.int .i64 1)) = (csK x y 0).map (Value.int .i64) by rw [csK_zero, List.replicate_succ]; rfl] at hst
        have ST := Lib.hid hst
        have Bs : Below w.heap.size w (wm.setCell ⟨G, 0, none⟩ (.int .i64 1)) := Bm.setCell (p := ⟨G, 0, none⟩) hwG _
        clear hst hown0
        go_wp2_with fail
        go_loopw [7] (fun q wr => ∃ j : Nat, j ≤ y.size ∧ q = .int .i64 j ∧ wr.ownsRow w.heap.size 2 1 (.slice (some ⟨G, 0, none⟩) (x.size + 1) (x.size + 1)) (x.size + 1) ((csK x y j).map (Value.int .i64)) ∧ Below w.heap.size w wr)
          (fun q _ => y.size - (intOf q).toNat)
        case atStart => exact ⟨0, Nat.zero_le _, rfl, ST.out, Bs⟩
        case round =>
          obtain ⟨j, hj, rfl, hown, hB⟩ := hrel
          clear Bs Bm BX k1 k2
          by_cases hp : j < y.size
          · obtain ⟨wo, hwo⟩ : ∃ wo : World, wo = wr := ⟨_, rfl⟩
            have WO := Lib.hid hwo
            clear hwo
            obtain ⟨m, hm0⟩ : ∃ m : Int, m = 2 ^ j := ⟨_, rfl⟩
            have HM : Hid (m ≤ 1152921504606846976) := Lib.hid (by rw [hm0]; exact pow_le60 (by omega))
            have HL : Hid ((csK x y j).length = x.size + 1 ∧ csBd (csK x y j) x.size m ∧ csInn x (y[j]'hp) x.size (csK x y j) = csK x y (j + 1)) := Lib.hid ⟨csK_len x y j hj, by rw [hm0]; exact csK_bd x y j hj x.size, (csK_succ x y j hp).symm⟩
            clear hm0
            go_wp2_with fail
            go_loopw [8] (fun q wr => ∃ (k : Nat) (L : List Int), k ≤ x.size ∧ q = .int .i64 k ∧ Hid (L.length = x.size + 1 ∧ csBd L k m ∧ csInn x (y[j]'hp) k L = csK x y (j + 1)) ∧ wr.ownsRow w.heap.size 2 1 (.slice (some ⟨G, 0, none⟩) (x.size + 1) (x.size + 1)) (x.size + 1) (L.map (Value.int .i64)) ∧ Below w.heap.size w wr)
              (fun q _ => (intOf q).toNat)
            case atStart => exact ⟨x.size, csK x y j, Nat.le_refl _, rfl, HL, hown, hB⟩
            case round =>
              clear hown hB HL
              obtain ⟨k, L, hk, rfl, HL, hown, hB⟩ := hrel
              by_cases hk0 : 0 < k
              · obtain ⟨i, rfl⟩ : ∃ i, k = i + 1 := ⟨k - 1, by omega⟩
                have hi : i < x.size := by omega
                by_cases he : x[i]'hi = y[j]'hp
                · have hd : (((x[i]'hi).toNat : Int) == ((y[j]'hp).toNat : Int)) = true := by rw [he]; simp
                  have hLl : L.length = x.size + 1 := HL.out.1
                  have hbd := HL.out.2.1
                  have b1 := hbd i
                  have b2 := hbd (i + 1)
                  have bm := HM.out
                  have c1 : wr.cell? ⟨G, i, none⟩ = some (.int .i64 (L.getD i 0)) := by
                    rw [hown.cellAt i (by omega)]
                    simp [List.getD_eq_getElem?_getD, List.getElem?_eq_getElem (show i < L.length by omega)]
                  have c2 : wr.cell? ⟨G, i + 1, none⟩ = some (.int .i64 (L.getD (i + 1) 0)) := by
                    rw [hown.cellAt (i + 1) (by omega)]
                    simp [List.getD_eq_getElem?_getD, List.getElem?_eq_getElem (show i + 1 < L.length by omega)]
                  have f2 : wr.frozen? ⟨G, i + 1, none⟩ = false := hown.frozenAt (i + 1)
                  have hst := (hown.stored (i + 1) (.int .i64 (L.getD (i + 1) 0 + L.getD i 0))).1
                  rw [map_set_int, ← cs_hit hi he] at hst
                  have hbd2 := csStep_bd (x := x) (c := y[j]'hp) (i := i) hbd
                  have hlen2 := csStep_len x (y[j]'hp) i L
                  have HL2 : Hid ((csStep x (y[j]'hp) i L).length = x.size + 1 ∧ csBd (csStep x (y[j]'hp) i L) i m ∧ csInn x (y[j]'hp) i (csStep x (y[j]'hp) i L) = csK x y (j + 1)) := Lib.hid ⟨by omega, hbd2, HL.out.2.2⟩
                  generalize hv1 : L.getD i 0 = v1 at *
                  generalize hv2 : L.getD (i + 1) 0 = v2 at *
                  have HST := Lib.hid hst
                  obtain ⟨q1, q2, q3⟩ := b1
                  obtain ⟨q4, q5, q6⟩ := b2
                  have q7 : v2 ≤ m := q6 (by omega)
                  have q8 : v1 ≤ m := q3 (by omega)
                  have e1 : IntKind.i64.wrap (v2 + v1) = v2 + v1 := IntWalk.i64_in _ (by omega)
                  have e2 : IntKind.i64.wrap ((i : Int) + 1) = (i : Int) + 1 := IntWalk.i64_in _ (by omega)
                  have e3 : (0 : Int) ≤ (i : Int) + 1 := by omega
                  have e4 : ((i : Int) + 1).toNat = i + 1 := by omega
                  clear hst hbd hbd2 hlen2 q3 q6 hv1 hv2 hown HL
                  clear he
                  go_wp2
                  go_quiet (fail)
                  go_wp2
                  go_region
                  all_goals
                    go_wp2
                    go_roundw
                    case rel => exact ⟨i, csStep x (y[j]'hp) i L, by omega, by go_num, HL2, HST.out, (hB.setCell (p := ⟨G, i + 1, none⟩) hwG (.int .i64 (v2 + v1))).trans ⟨rfl, rfl, rfl, Nat.le_refl _, fun _ _ => rfl⟩⟩
                    case measure => simp [intOf] <;> omega
                · have hd : (((x[i]'hi).toNat : Int) == ((y[j]'hp).toNat : Int)) = false := by
                    rw [beq_eq_false_iff_ne]; intro h; exact he (byte_eq_iff.1 h)
                  have HL2 : Hid ((csStep x (y[j]'hp) i L).length = x.size + 1 ∧ csBd (csStep x (y[j]'hp) i L) i m ∧ csInn x (y[j]'hp) i (csStep x (y[j]'hp) i L) = csK x y (j + 1)) := Lib.hid ⟨by rw [csStep_len]; exact HL.out.1, csStep_bd HL.out.2.1, HL.out.2.2⟩
                  have HST : Hid (wr.ownsRow w.heap.size 2 1 (.slice (some ⟨G, 0, none⟩) (x.size + 1) (x.size + 1)) (x.size + 1) ((csStep x (y[j]'hp) i L).map (Value.int .i64))) := Lib.hid (by rw [cs_miss hi he]; exact hown)
                  clear hown HL
                  clear he
                  go_wp2
                  go_quiet (fail)
                  go_wp2
                  go_roundw
                  case rel => exact ⟨i, csStep x (y[j]'hp) i L, by omega, by go_num, HL2, HST.out, hB.drewN _⟩
                  case measure => simp [intOf] <;> omega
              · obtain rfl : k = 0 := by omega
                have hown2 : wr.ownsRow w.heap.size 2 1 (.slice (some ⟨G, 0, none⟩) (x.size + 1) (x.size + 1)) (x.size + 1) ((csK x y (j + 1)).map (Value.int .i64)) := by
                  rw [← HL.out.2.2]
                  exact hown
                have HO := Lib.hid hown2
                clear hown hown2 HL
                go_wp2
                go_roundw
                case rel => exact ⟨j + 1, by omega, by go_num, HO.out, hB⟩
                case measure => simp [intOf]; omega
          · obtain rfl : j = y.size := by omega
            have hlen := csK_len x y y.size (Nat.le_refl _)
            have c1 : wr.cell? ⟨G, x.size, none⟩ = some (.int .i64 ((csK x y y.size).getD x.size 0)) := by
              rw [hown.cellAt x.size (by omega)]
              simp [List.getD_eq_getElem?_getD, List.getElem?_eq_getElem (show x.size < (csK x y y.size).length by omega)]
            generalize hz : (csK x y y.size).getD x.size 0 = z at c1
            have HZ := Lib.hid hz
            clear hown hlen hz
            go_wp2
            go_ret2
            exact ⟨by rw [HZ.out]; rfl, hB⟩
    · rw [cscR_bad (fun h => h2 h.2)]
      have H1 := Lib.hid h1
      have H2 := Lib.hid h2
      clear h1 h2
      go_enter Try.func18, Try.ntmps18
      go_wp2_with fail
      refine (l01Is_yes x _ H1.out).mono ?_
      rintro e w1 ⟨rfl, b1⟩
      go_wp2_with fail
      refine (l01Is_no y _ sy H2.out).mono ?_
      rintro e w2 ⟨rfl, b2⟩
      go_wp2_with fail
      go_ret2
      exact ⟨rfl, b1.then b2⟩
  · rw [cscR_bad (fun h => h1 h.1)]
    have H1 := Lib.hid h1
    clear h1
    go_enter Try.func18, Try.ntmps18
    go_wp2_with (go_at_call 37; refine (l01Is_no x _ sx H1.out).mono ?_; rintro e w1 ⟨rfl, b1⟩)
    go_ret2
    exact ⟨rfl, b1⟩

set_option maxRecDepth 100000 in
set_option maxHeartbeats 4000000 in
theorem impl_CountScattered (x y : ByteArray) (w : World) (sx : x.size ≤ maxLen) (sy : y.size ≤ maxLen) :
    Calls Try.prog 19 #[.string x, .string y] w fun e w' => e = .returned (.tuple #[.int .i64 (cscR x y).1, .int .i64 (cscR x y).2]) ∧ Below w.heap.size w w' := by
  by_cases h : IsW x ∧ IsW y
  · have s1 := h.1.size
    have s2 := h.2.size
    by_cases h6 : 6 < x.size
    · rw [cscR_long h h6]
      have H := Lib.hid h
      clear h
      go_enter Try.func19, Try.ntmps19
      go_wp2_with (go_at_call 39; refine (areWords2_yes _ x y _ (by simp) (by simp [go_sem]) (by simp [go_sem]) H.out.1 H.out.2).mono ?_; rintro e w1 ⟨rfl, b1⟩)
      go_ret2
      exact ⟨rfl, (Below.new _ _).then b1⟩
    · obtain ⟨i0, hi, hz0, hz1, hz2⟩ := info_parts infoI64
      rw [cscR_ok h h6]
      have H := Lib.hid h
      clear h
      have h7 : x.size ≤ 6 := by omega
      clear h6
      go_enter Try.func19, Try.ntmps19
      go_wp2_with fail
      refine (areWords2_yes _ x y _ (by simp) (by simp [go_sem]) (by simp [go_sem]) H.out.1 H.out.2).mono ?_
      rintro e w1 ⟨rfl, b1⟩
      have BX := (Below.new w _).then b1
      have hBX := BX.size
      clear b1
      go_wp2_with (at_make; refine wpList_make_full _ rfl _ _ 35 rfl w.heap.size 2 i0 (.int .i64 0) 1 Try.underlying35 hi hz0 hz1 .i64 .i64 ((x.size : Int) + 1) ((x.size : Int) + 1) (x.size + 1) rfl rfl (by omega) (by omega) (by rw [hz2]; omega) (by unfold maxLen; omega) (hBX) ?_; intro wm hown hgrow; have k1 := made_cell hown (Nat.succ_pos _); have k2 := hown.frozenAt 0)
      have hown0 : wm.ownsRow w.heap.size 2 1 (.slice (some ⟨w1.heap.size, 0, none⟩) (x.size + 1) (x.size + 1)) (x.size + 1) ((List.replicate (x.size + 1) (0 : Int)).map (Value.int .i64)) := by
        have h2 := hown
        rw [show (Value.int .i64 0).cells = #[Value.int .i64 0] from rfl, toList_madeCells_one, Nat.mul_one] at h2
        rw [List.map_replicate]
        exact h2
      have Bm : Below w.heap.size w wm := BX.grown hgrow BX.size (fun _ e => by cases e)
      have hGm : w1.heap.size < wm.heap.size := by
        rcases own_forms hown0 with ⟨h, _⟩ | ⟨g, cap, h, _, h3, _⟩
        · cases h
        · cases h; exact h3
      have hwG : w.heap.size ≤ w1.heap.size := BX.size
      clear hown hgrow
      generalize hG : w1.heap.size = G at *
      clear hG
      have hst := (hown0.stored 0 (.int .i64 1)).1
      rw [show (((List.replicate (x.size + 1) (0 : Int)).map (Value.int .i64)).set 0 (.int .i64 1)) = (csK x y 0).map (Value.int .i64) by rw [csK_zero, List.replicate_succ]; rfl] at hst
      have ST := Lib.hid hst
      have Bs : Below w.heap.size w (wm.setCell ⟨G, 0, none⟩ (.int .i64 1)) := Bm.setCell (p := ⟨G, 0, none⟩) hwG _
      clear hst hown0
      have hle := Bm.size
      go_wp2_with fail
      go_loopw [] (fun wr => ∃ j : Nat, j ≤ y.size ∧ wr.heap[wm.heap.size]? = some (.stringIter y j) ∧ wr.ownsRow w.heap.size 2 1 (.slice (some ⟨G, 0, none⟩) (x.size + 1) (x.size + 1)) (x.size + 1) ((csK x y j).map (Value.int .i64)) ∧ Below w.heap.size w wr)
        (fun wr => y.size - wr.iterPos wm.heap.size)
      case atStart =>
        have hs : (wm.setCell ⟨G, 0, none⟩ (.int .i64 1)).heap.size = wm.heap.size := by simp [World.setCell]
        have hit := World.iter_heap (wm.setCell ⟨G, 0, none⟩ (.int .i64 1)) y 0
        rw [hs] at hit
        exact ⟨0, Nat.zero_le _, hit, ST.out.alloc _, Bs.alloc (by rw [hs]; exact hle) _⟩
      case round =>
        obtain ⟨j, hj, hit, hown, hB⟩ := hrel
        clear Bs Bm BX k1 k2
        obtain ⟨wo, rfl⟩ : ∃ wo : World, wo = wr := ⟨_, rfl⟩
        by_cases hp : j < y.size
        · have hlo := H.out.2.lo j hp
          have hhi := H.out.2.hi j hp
          have hnx : ∀ ty, (Instr.next (.pointer (some ⟨wm.heap.size, 0, none⟩)) true ty).run Try.prog wo = _ := fun ty => Lib.run_next_ascii_at wo wm.heap.size y j ty hit hp (by omega)
          have hit2 := Lib.iterAt_heap wo wm.heap.size y j (j + 1) hit
          have hB2 := Lib.below_iterAt hB hle y (j + 1)
          have hown := ownsRow_iterAt' hown hit (j + 1)
          have HIT := Lib.hid hit
          have HIT2 := Lib.hid hit2
          clear hit hit2 hB
          generalize hgw : wo.iterAt wm.heap.size y (j + 1) = wi at *
          have HG := Lib.hid hgw
          clear hgw
          obtain ⟨m, hm0⟩ : ∃ m : Int, m = 2 ^ j := ⟨_, rfl⟩
          have HM : Hid (m ≤ 1152921504606846976) := Lib.hid (by rw [hm0]; exact pow_le60 (by omega))
          have HL : Hid ((csK x y j).length = x.size + 1 ∧ csBd (csK x y j) x.size m ∧ csInn x (y[j]'hp) x.size (csK x y j) = csK x y (j + 1)) := Lib.hid ⟨csK_len x y j hj, by rw [hm0]; exact csK_bd x y j hj x.size, (csK_succ x y j hp).symm⟩
          clear hm0
          go_wp2_with fail
          go_loopw [9] (fun q wr => ∃ (k : Nat) (L : List Int), k ≤ x.size ∧ q = .int .i64 ((k : Int) - 1) ∧ Hid (L.length = x.size + 1 ∧ csBd L k m ∧ csInn x (y[j]'hp) k L = csK x y (j + 1)) ∧ wr.ownsRow w.heap.size 2 1 (.slice (some ⟨G, 0, none⟩) (x.size + 1) (x.size + 1)) (x.size + 1) (L.map (Value.int .i64)) ∧ Below w.heap.size w wr ∧ Hid (wr.heap[wm.heap.size]? = some (.stringIter y (j + 1))))
            (fun q _ => (intOf q + 1).toNat)
          case atStart => exact ⟨x.size, csK x y j, Nat.le_refl _, rfl, HL, hown, hB2, HIT2⟩
          case round =>
            clear hown hB2 HL HIT2 hnx
            obtain ⟨k, L, hk, rfl, HL, hown, hB, HIT2⟩ := hrel
            by_cases hk0 : 0 < k
            · obtain ⟨i, rfl⟩ : ∃ i, k = i + 1 := ⟨k - 1, by omega⟩
              have hi : i < x.size := by omega
              by_cases he : x[i]'hi = y[j]'hp
              · have hd : (((x[i]'hi).toNat : Int) == ((y[j]'hp).toNat : Int)) = true := by rw [he]; simp
                have hLl : L.length = x.size + 1 := HL.out.1
                have hbd := HL.out.2.1
                have b1 := hbd i
                have b2 := hbd (i + 1)
                have bm := HM.out
                have c1 : wr.cell? ⟨G, i, none⟩ = some (.int .i64 (L.getD i 0)) := by
                  rw [hown.cellAt i (by omega)]
                  simp [List.getD_eq_getElem?_getD, List.getElem?_eq_getElem (show i < L.length by omega)]
                have c2 : wr.cell? ⟨G, i + 1, none⟩ = some (.int .i64 (L.getD (i + 1) 0)) := by
                  rw [hown.cellAt (i + 1) (by omega)]
                  simp [List.getD_eq_getElem?_getD, List.getElem?_eq_getElem (show i + 1 < L.length by omega)]
                have f2 : wr.frozen? ⟨G, i + 1, none⟩ = false := hown.frozenAt (i + 1)
                have hst := (hown.stored (i + 1) (.int .i64 (L.getD (i + 1) 0 + L.getD i 0))).1
                rw [map_set_int, ← cs_hit hi he] at hst
                have hbd2 := csStep_bd (x := x) (c := y[j]'hp) (i := i) hbd
                have hlen2 := csStep_len x (y[j]'hp) i L
                have HL2 : Hid ((csStep x (y[j]'hp) i L).length = x.size + 1 ∧ csBd (csStep x (y[j]'hp) i L) i m ∧ csInn x (y[j]'hp) i (csStep x (y[j]'hp) i L) = csK x y (j + 1)) := Lib.hid ⟨by omega, hbd2, HL.out.2.2⟩
                generalize hv1 : L.getD i 0 = v1 at *
                generalize hv2 : L.getD (i + 1) 0 = v2 at *
                have HST := Lib.hid hst
                obtain ⟨q1, q2, q3⟩ := b1
                obtain ⟨q4, q5, q6⟩ := b2
                have q7 : v2 ≤ m := q6 (by omega)
                have q8 : v1 ≤ m := q3 (by omega)
                have e1 : IntKind.i64.wrap (v2 + v1) = v2 + v1 := IntWalk.i64_in _ (by omega)
                have e2 : IntKind.i64.wrap ((i : Int) + 1) = (i : Int) + 1 := IntWalk.i64_in _ (by omega)
                have e3 : (0 : Int) ≤ (i : Int) + 1 := by omega
                have e4 : ((i : Int) + 1).toNat = i + 1 := by omega
                clear hst hbd hbd2 hlen2 q3 q6 hv1 hv2 hown HL
                clear he
                have HIT3 : Hid ((wr.setCell ⟨G, i + 1, none⟩ (.int .i64 (v2 + v1))).heap[wm.heap.size]? = some (.stringIter y (j + 1))) := Lib.hid (by rw [Below.heap_setCell _ _ _ _ (by simp; omega)]; exact HIT2.out)
                have hi7 := H.out.1.hi i hi
                go_wp2
                go_region
                all_goals
                  go_wp2
                  go_roundw
                  case rel => exact ⟨i, csStep x (y[j]'hp) i L, by omega, by go_num, HL2, HST.out, (hB.setCell (p := ⟨G, i + 1, none⟩) hwG (.int .i64 (v2 + v1))).trans ⟨rfl, rfl, rfl, Nat.le_refl _, fun _ _ => rfl⟩, HIT3⟩
                  case measure => simp [intOf] <;> omega
              · have hd : (((x[i]'hi).toNat : Int) == ((y[j]'hp).toNat : Int)) = false := by
                  rw [beq_eq_false_iff_ne]; intro h; exact he (byte_eq_iff.1 h)
                have HL2 : Hid ((csStep x (y[j]'hp) i L).length = x.size + 1 ∧ csBd (csStep x (y[j]'hp) i L) i m ∧ csInn x (y[j]'hp) i (csStep x (y[j]'hp) i L) = csK x y (j + 1)) := Lib.hid ⟨by rw [csStep_len]; exact HL.out.1, csStep_bd HL.out.2.1, HL.out.2.2⟩
                have HST : Hid (wr.ownsRow w.heap.size 2 1 (.slice (some ⟨G, 0, none⟩) (x.size + 1) (x.size + 1)) (x.size + 1) ((csStep x (y[j]'hp) i L).map (Value.int .i64))) := Lib.hid (by rw [cs_miss hi he]; exact hown)
                clear hown HL
                clear he
                have hi7 := H.out.1.hi i hi
                go_wp2
                go_roundw
                case rel => exact ⟨i, csStep x (y[j]'hp) i L, by omega, by go_num, HL2, HST.out, hB, HIT2⟩
                case measure => simp [intOf] <;> omega
            · obtain rfl : k = 0 := by omega
              have hown2 : wr.ownsRow w.heap.size 2 1 (.slice (some ⟨G, 0, none⟩) (x.size + 1) (x.size + 1)) (x.size + 1) ((csK x y (j + 1)).map (Value.int .i64)) := by
                rw [← HL.out.2.2]
                exact hown
              have HO := Lib.hid hown2
              clear hown hown2 HL
              go_wp2
              go_roundw
              case rel => exact ⟨j + 1, by omega, HIT2.out, HO.out, hB⟩
              case measure => simp only [World.iterPos, HIT2.out, HIT.out]; omega
        · obtain rfl : j = y.size := by omega
          have hnx : ∀ ty, (Instr.next (.pointer (some ⟨wm.heap.size, 0, none⟩)) true ty).run Try.prog wo = _ := fun ty => Lib.run_next_end_at wo wm.heap.size y y.size ty hit hp
          have hlen := csK_len x y y.size (Nat.le_refl _)
          have c1 : wo.cell? ⟨G, x.size, none⟩ = some (.int .i64 ((csK x y y.size).getD x.size 0)) := by
            rw [hown.cellAt x.size (by omega)]
            simp [List.getD_eq_getElem?_getD, List.getElem?_eq_getElem (show x.size < (csK x y y.size).length by omega)]
          generalize hz : (csK x y y.size).getD x.size 0 = z at c1
          have HZ := Lib.hid hz
          clear hown hlen hz
          go_wp2
          go_ret2
          exact ⟨by rw [HZ.out]; rfl, hB⟩
  · rw [cscR_bad h]
    have H := Lib.hid h
    clear h
    go_enter Try.func19, Try.ntmps19
    go_wp2_with (go_at_call 39; refine (areWords2_no _ x y _ (by simp) (by simp [go_sem]) (by simp [go_sem]) sx sy H.out).mono ?_; rintro e w1 ⟨rfl, b1⟩)
    go_ret2
    exact ⟨rfl, (Below.new _ _).then b1⟩

end Go.Proofs.Ytedpbfddoobnnab
