/- The fewest palindromic parts: the model. -/
import Derived.Test.YtddfdciohnabbacGreatFpPlain
import Derived.Test.YtddfdciohnabbacGreatPal
import Derived.Test.YtddfdciohnabbacGreatStrs
import Derived.Test.YtddfdciohnabbacGreatDrawn
import Derived.Deep.LoopGhost
import Derived.IntWalk
import Derived.Maps.AppendAt
namespace Go.Proofs.YtddfdciohnabbacGreat
set_option linter.unusedVariables false
set_option linter.unusedSimpArgs false
open Go.RowKit

theorem infoInt : (Tryz.prog.info? 3).map (fun i => (i.zero, i.size, i.bytes)) = some (some (.int .i64 0), 1, 8) := by kernel_rfl
/-- The table of the numbers from the place k on. -/
abbrev TabF (W : World) (B G : Nat) (x : ByteArray) (L : List Value) : Prop := W.ownsRow B 3 1 (.slice (some ⟨G, 0, none⟩) (x.size + 1) (x.size + 1)) (x.size + 1) L
theorem tabF_at {x : ByteArray} {k : Nat} {W : World} {g B : Nat} (h : TabF W B g x ((fL x k).map (Value.int .i64))) {j : Nat} (hj : k ≤ j) (hx : j ≤ x.size) : W.cell? ⟨g, j, none⟩ = some (.int .i64 (fF x j : Int)) := by
  rw [h.cellAt j (by omega), List.getElem?_map, List.getElem?_eq_getElem (by rw [fL_len]; omega), fL_get, if_pos hj]
  rfl
theorem tabF_low {x : ByteArray} {k : Nat} {W : World} {g B : Nat} (h : TabF W B g x ((fL x k).map (Value.int .i64))) {j : Nat} (hj : j < k) (hx : j ≤ x.size) : W.cell? ⟨g, j, none⟩ = some (.int .i64 0) := by
  rw [h.cellAt j (by omega), List.getElem?_map, List.getElem?_eq_getElem (by rw [fL_len]; omega), fL_get, if_neg (by omega)]
  rfl
theorem tabF_past {x : ByteArray} {k i : Nat} {v : Int} {W : World} {g B : Nat} (h : TabF W B g x (((fL x k).map (Value.int .i64)).set i (.int .i64 v))) {j : Nat} (hi : i < j) (hj : k ≤ j) (hx : j ≤ x.size) : W.cell? ⟨g, j, none⟩ = some (.int .i64 (fF x j : Int)) := by
  rw [h.cellAt j (by omega), List.getElem?_set_ne (by omega), List.getElem?_map, List.getElem?_eq_getElem (by rw [fL_len]; omega), fL_get, if_pos hj]
  rfl
theorem tabF_own {x : ByteArray} {k i : Nat} {v : Int} {W : World} {g B : Nat} (h : TabF W B g x (((fL x k).map (Value.int .i64)).set i (.int .i64 v))) (hx : i ≤ x.size) : W.cell? ⟨g, i, none⟩ = some (.int .i64 v) := by
  rw [h.cellAt i (by omega), List.getElem?_set_self (by rw [List.length_map, fL_len]; omega)]
theorem tabF_set {x : ByteArray} {L : List Value} {W : World} {g B i : Nat} {v v' : Value} (h : TabF W B g x (L.set i v)) : TabF (W.setCell ⟨g, i, none⟩ v') B g x (L.set i v') := by
  have := (h.stored i v').1
  rwa [List.set_set] at this

theorem nxS_room (x : ByteArray) (i : Nat) : ∀ k, nxS x i k ≤ k
  | 0 => Nat.le_refl _
  | k + 1 => by
    have := nxS_room x i k
    rw [nxS]
    split <;> omega

set_option maxRecDepth 100000 in
set_option maxHeartbeats 1000000 in
theorem l04Is_q (x : ByteArray) (w : World) (hx : x.size ≤ 1000) :
    Calls Tryz.prog 32 #[.string x] w fun e w' => e = .returned (.bool (palB (bl x))) ∧ Drawn w w' := by
  go_enter Tryz.func32, Tryz.ntmps32
  go_wp2
  go_loopw [3, 4] (fun i j wr => ∃ k : Nat, 2 * k ≤ x.size + 1 ∧ i = .int .i64 (k : Int) ∧ j = .int .i64 ((x.size : Int) - 1 - k) ∧ Drawn w wr ∧ PalTo x k)
    (fun i _ _ => x.size + 1 - (intOf i).toNat)
  case atStart => exact ⟨0, by omega, rfl, by simp, Drawn.refl _, PalTo.zero x⟩
  case round =>
    obtain ⟨k, hk, rfl, rfl, hB, hP⟩ := hrel
    have HP := Lib.hid hP
    clear hP
    by_cases hp : 2 * k + 1 < x.size
    · have hk1 : k < x.size := by omega
      have hk2 : x.size - 1 - k < x.size := by omega
      have hlt : (k : Int) < (x.size : Int) - 1 - k := by omega
      have hle : (x[k]'hk1).toNat = (x[x.size - 1 - k]'hk2).toNat ↔ x[k]'hk1 = x[x.size - 1 - k]'hk2 := nat_byte
      have hS := fun e => HP.out.succ hk1 hk2 (hle.1 e)
      have hM := fun (e : ¬ _) => pal_miss (x := x) (k := k) (by omega) hk1 hk2 (fun c => e (hle.2 c))
      have hix1 : ∀ W, (Instr.index 9 (.string x) (.int .i64 (k : Int))).run Tryz.prog W = .ok (.int .u8 ((x[k]'hk1).toNat : Int)) W := fun W => index_at x _ k hk1 rfl W
      have hix2 : ∀ W, (Instr.index 9 (.string x) (.int .i64 ((x.size : Int) - 1 - (k : Int)))).run Tryz.prog W = .ok (.int .u8 ((x[x.size - 1 - k]'hk2).toNat : Int)) W := fun W => index_at x _ (x.size - 1 - k) hk2 (by omega) W
      clear hle
      generalize (x[k]'hk1).toNat = a at *
      generalize (x[x.size - 1 - k]'hk2).toNat = b at *
      have HS := Lib.hid hS
      have HM := Lib.hid hM
      clear hS hM
      by_cases he : a = b
      · have hee : (a : Int) = (b : Int) := by omega
        have HT := Lib.hid (HS.out he)
        clear he
        go_wp2
        go_quiet (fail)
        go_wp2
        go_roundw
        case rel => exact ⟨k + 1, by omega, by go_num, by congr 1; omega, hB.more _, HT.out⟩
        case measure => simp [intOf]; omega
      · have hee : ¬ (a : Int) = (b : Int) := by omega
        have HT := Lib.hid (HM.out he)
        clear he
        go_wp2
        go_quiet (fail)
        go_wp2
        go_ret
        exact ⟨by rw [HT.out]; rfl, hB.more _⟩
    · have HD := Lib.hid (HP.out.done (by omega))
      have hlt : ¬ (k : Int) < (x.size : Int) - 1 - k := by omega
      go_wp2
      go_ret
      exact ⟨by rw [HD.out]; rfl, hB⟩

set_option maxRecDepth 100000 in
set_option maxHeartbeats 4000000 in
theorem spec_FewestParts (x : ByteArray) (w : World) (sx : x.size ≤ maxLen) :
    Calls Tryz.prog 7 #[.string x] w (RetS (partsPR x).1 (partsPR x).2 w) := by
  by_cases h : IsW x
  · obtain ⟨i0, hi, hz0, hz1, hz2⟩ := info_parts infoInt
    obtain ⟨i1, hi1, hy0, hy1, hy2⟩ := info_parts infoStr
    have hx := h.size
    rw [partsPR_ok h]
    have H := Lib.hid h
    clear h
    go_enter Tryz.func7, Tryz.ntmps7
    go_wp2_with fail
    refine (l01Is_yes x _ H.out).mono ?_
    rintro e w1 ⟨rfl, b1⟩
    go_wp2_with (at_make; refine wpList_make_full _ rfl _ _ 48 rfl w.heap.size 3 i0 (.int .i64 0) 1 Tryz.underlying48 hi hz0 hz1 .i64 .i64 ((x.size : Int) + 1) ((x.size : Int) + 1) (x.size + 1) rfl rfl (by omega) (by omega) (by rw [hz2]; omega) (by unfold maxLen; omega) b1.size ?_; intro wm hown hgrow)
    have hown0 : TabF wm w.heap.size w1.heap.size x ((fL x x.size).map (Value.int .i64)) := by
      have h2 := hown
      rw [show (Value.int .i64 0).cells = #[Value.int .i64 0] from rfl, toList_madeCells_one, Nat.mul_one] at h2
      rw [fL_start, List.map_replicate]
      exact h2
    have Bm : Below w.heap.size w wm := b1.grown hgrow b1.size (fun _ e => by cases e)
    have hwG : w.heap.size ≤ w1.heap.size := b1.size
    have hGm : w1.heap.size < wm.heap.size := (World.ownsRow.lt hown0 _ rfl).2
    clear hown hgrow b1
    generalize hG : w1.heap.size = G at *
    clear hG
    go_wp2
    go_loopg [6] x.size (fun g s6 wr => ∃ u : Int, s6 = .int .i64 u ∧ u + 1 = (g : Int) ∧ g ≤ x.size ∧ TabF wr w.heap.size G x ((fL x g).map (Value.int .i64)) ∧ Below w.heap.size w wr)
    case atStart => exact ⟨_, rfl, by omega, Nat.le_refl _, hown0, Bm⟩
    case round =>
      clear hown0 Bm hGm
      obtain ⟨u, rfl, hu, hgx, hown, hB⟩ := hrel
      by_cases hp : 1 ≤ gk
      · obtain ⟨i, rfl⟩ : ∃ i, gk = i + 1 := ⟨gk - 1, by omega⟩
        obtain rfl : u = (i : Int) := by omega
        clear hu
        have hpi : (0 : Int) ≤ (i : Int) := by omega
        have ci := tabF_low hown (Nat.lt_succ_self i) (by omega)
        have fi : wr.frozen? ⟨G, i, none⟩ = false := hown.frozenAt i
        have hin : i < x.size + 1 := by omega
        have hini : (i : Int) < (x.size : Int) + 1 := by omega
        have hst := (hown.stored i (.int .i64 ((x.size : Int) + 1))).1
        have hB1 : Below w.heap.size w (wr.setCell ⟨G, i, none⟩ (.int .i64 ((x.size : Int) + 1))) := hB.setCell (p := ⟨G, i, none⟩) hwG _
        have HM0 : Hid (MnI x i (fun j => j < i + 1) (x.size + 1)) := Lib.hid ⟨by have := fF_room' x i (by omega); omega, fun j j1 j2 j3 => by omega⟩
        have HST := Lib.hid hst
        clear hst hown hp
        go_wp2
        go_loopg [7] (x.size - i) (fun g s7 wr' => ∃ k v : Nat, k + g = x.size + 1 ∧ i < k ∧ s7 = .int .i64 (k : Int) ∧ TabF wr' w.heap.size G x (((fL x (i + 1)).map (Value.int .i64)).set i (.int .i64 (v : Int))) ∧ v ≤ 61 ∧ Hid (MnI x i (fun j => j < k) v) ∧ Below w.heap.size w wr')
        case atStart => exact ⟨i + 1, x.size + 1, by omega, by omega, by go_num, HST.out, by omega, HM0, hB1⟩
        case round =>
          clear HST hB1 HM0 hB ci fi
          obtain ⟨k, v, hk, hik, rfl, hT, hv, HM, hB⟩ := hrel
          by_cases hkx : k ≤ x.size
          · obtain ⟨g, rfl⟩ : ∃ g, gk = g + 1 := ⟨gk - 1, by omega⟩
            have hkxi : (k : Int) ≤ (x.size : Int) := by omega
            have hsl : ∀ W, (Instr.slice 9 (.string x) (some (.int .i64 (i : Int))) (some (.int .i64 (k : Int))) none).run Tryz.prog W = .ok (.string (x.extract i k)) W := fun W => by
              have := run_slice_string (P := Tryz.prog) W 9 x .i64 .i64 (i : Int) (k : Int) Tryz.underlying9 (by omega) (by omega) (by omega)
              simpa using this
            have CP := fun w => l04Is_any (x.extract i k) w (by simp; omega)
            by_cases ht : palS x i k = true
            · rw [show palB (bl (x.extract i k)) = true from ht] at CP
              have CQ := Lib.hid CP
              obtain ⟨f, hf⟩ : ∃ f, fF x k = f := ⟨_, rfl⟩
              have hfr := fF_room' x k hkx
              rw [hf] at hfr
              have hmn : min (v : Int) (1 + (f : Int)) = ((min v (f + 1) : Nat) : Int) := by omega
              have hmn2 : min v (f + 1) ≤ 61 := by omega
              have HM2 : Hid (MnI x i (fun j => j < k + 1) (min v (f + 1))) := Lib.hid (by rw [← hf]; exact HM.out.step hik hkx ht (fun j hj => by omega))
              generalize min v (f + 1) = m at *
              have wq : IntKind.i64.wrap (1 + (f : Int)) = 1 + (f : Int) := IntWalk.i64_in _ (by omega)
              have HF := Lib.hid hf
              have hkn : k < x.size + 1 := by omega
              have hkni : (k : Int) < (x.size : Int) + 1 := by omega
              clear CP ht hf HM
              generalize x.extract i k = y at *
              go_wp2_with (go_at_call 32; refine (CQ.out _).mono ?_; rintro e w2 ⟨rfl, b2⟩; have hT2 : TabF w2 w.heap.size G x (((fL x (i + 1)).map (Value.int .i64)).set i (.int .i64 (v : Int))) := own_below hT b2; have hB2 := hB.then b2; have ci := tabF_own hT2 (by omega); have ck := tabF_past hT2 hik (by omega) hkx; rw [HF.out] at ck; have fi : w2.frozen? ⟨G, i, none⟩ = false := hT2.frozenAt i; have hst := tabF_set (v' := .int .i64 (m : Int)) hT2; have HST := Lib.hid hst; clear hst hT hB b2 hT2)
              go_region
              all_goals
                go_wp2
                all_goals
                  go_roundg g
                  case measure => omega
                  case rel =>
                    have hB3 := (hB2.setCell (p := ⟨G, i, none⟩) hwG (.int .i64 (m : Int))).trans (⟨rfl, rfl, rfl, Nat.le_refl _, fun _ _ => rfl⟩ : Below w.heap.size (w2.setCell ⟨G, i, none⟩ (.int .i64 (m : Int))) (w2.setCell ⟨G, i, none⟩ (.int .i64 (m : Int))).drew)
                    have hT3 := HST.out
                    first
                      | (have hmm : (1 : Int) + (f : Int) = (m : Int) := by omega
                         exact ⟨k + 1, m, by omega, by omega, by go_num, by rw [hmm]; exact hT3, hmn2, HM2, by rw [hmm]; exact hB3⟩)
                      | (have hmm : (v : Int) = (m : Int) := by omega
                         exact ⟨k + 1, m, by omega, by omega, by go_num, by rw [hmm]; exact hT3, hmn2, HM2, by rw [hmm]; exact hB3⟩)
                      | exact ⟨k + 1, m, by omega, by omega, by go_num, by rw [hmn]; exact hT3, hmn2, HM2, by rw [hmn]; exact hB3⟩
            · have ht2 : palS x i k = false := by simpa using ht
              rw [show palB (bl (x.extract i k)) = false from ht2] at CP
              have CQ := Lib.hid CP
              have HM2 : Hid (MnI x i (fun j => j < k + 1) v) := Lib.hid (HM.out.skip ht2 (fun j hj => by omega))
              clear CP ht ht2 HM
              generalize x.extract i k = y at *
              go_wp2_with (go_at_call 32; refine (CQ.out _).mono ?_; rintro e w2 ⟨rfl, b2⟩)
              go_roundg g
              case measure => omega
              case rel => exact ⟨k + 1, v, by omega, by omega, by go_num, own_below hT b2, hv, HM2, hB.then b2⟩
          · obtain rfl : gk = 0 := by omega
            have hkxi : ¬ (k : Int) ≤ (x.size : Int) := by omega
            have hvf := HM.out.done (by omega) (fun j j1 j2 j3 => by omega)
            rw [hvf, fL_set x i (by omega)] at hT
            have HT := Lib.hid hT
            clear hT hvf HM hkx
            go_wp2
            go_roundg i
            case measure => omega
            case rel => exact ⟨_, rfl, by omega, by omega, HT.out, hB⟩
      · obtain rfl : gk = 0 := by omega
        have hpi : ¬ (0 : Int) ≤ u := by omega
        have hT0 : TabF (wr.alloc (.cells #[] 9)) w.heap.size G x ((fL x 0).map (Value.int .i64)) := hown.alloc _
        have hE0 : OwnS (wr.alloc (.cells #[] 9)) w.heap.size (.slice (some ⟨wr.heap.size, 0, none⟩) 0 0) [] := own_base (World.ownsRow_lit wr #[] 0 (Nat.le_refl _) (by decide) (by simp)) hB.size
        have hB0 := hB.alloc hB.size (.cells #[] 9)
        have hGl := (World.ownsRow.lt hown G rfl).2
        have HE0 := Lib.hid hE0
        clear hp hown hE0
        go_wp2
        go_loopg [8, 9] x.size (fun g o s9 wr' => ∃ (j : Nat) (L : List ByteArray), x.size - j ≤ g ∧ j ≤ x.size ∧ s9 = .int .i64 (j : Int) ∧ OwnS wr' w.heap.size o L ∧ (∀ q, o.ownBlock = some q → q ≠ G) ∧ L.length ≤ j ∧ Hid (L ++ pt x j = pt x 0) ∧ TabF wr' w.heap.size G x ((fL x 0).map (Value.int .i64)) ∧ Below w.heap.size w wr')
        case atStart => exact ⟨0, [], by omega, by omega, rfl, HE0.out, fun q hq => by have := Option.some.inj hq; simp at this; omega, Nat.le_refl _, Lib.hid rfl, hT0, hB0⟩
        case round =>
          clear hT0 HE0 hB0 hB hGl
          obtain ⟨j, L, hjg, hjx, rfl, hown, hne, hLj, HL, hT, hB⟩ := hrel
          by_cases hp : j < x.size
          · obtain ⟨g, rfl⟩ : ∃ g, gk = g + 1 := ⟨gk - 1, by omega⟩
            have hpi : (j : Int) < (x.size : Int) := by omega
            obtain ⟨n1, n2, n3, n4⟩ := nx_ok hp
            have HST : Hid (pt x j = x.extract j (nx x j) :: pt x (nx x j)) := Lib.hid (pt_step hp)
            have HN0 : Hid (nxS x j x.size = nx x j) := Lib.hid rfl
            generalize hnx : nx x j = nj at *
            clear hp
            go_wp2
            go_loopg [8, 9, 10] x.size (fun g2 o s9 s10 wr' => g2 ≤ x.size ∧ o = u8 ∧ s9 = .int .i64 (j : Int) ∧ s10 = .int .i64 (g2 : Int) ∧ Hid (nxS x j g2 = nj) ∧ OwnS wr' w.heap.size u8 L ∧ TabF wr' w.heap.size G x ((fL x 0).map (Value.int .i64)) ∧ Below w.heap.size w wr')
            case atStart => exact ⟨Nat.le_refl _, rfl, rfl, rfl, HN0, hown, hT, hB⟩
            case round =>
              clear hown hT hB HN0
              obtain ⟨hkx, rfl, rfl, rfl, HN, hown, hT, hB⟩ := hrel
              by_cases hjk : j < gk
              · obtain ⟨g2, hg2⟩ : ∃ q, gk = q + 1 := ⟨gk - 1, by omega⟩
                have hjki : (j : Int) < (gk : Int) := by omega
                have hsl : ∀ W, (Instr.slice 9 (.string x) (some (.int .i64 (j : Int))) (some (.int .i64 (gk : Int))) none).run Tryz.prog W = .ok (.string (x.extract j gk)) W := fun W => by
                  have := run_slice_string (P := Tryz.prog) W 9 x .i64 .i64 (j : Int) (gk : Int) Tryz.underlying9 (by omega) (by omega) (by omega)
                  simpa using this
                have CP := fun w => l04Is_q (x.extract j gk) w (by simp; omega)
                have HE : Hid (gk = nj → x.extract j gk = x.extract j nj) := Lib.hid fun e => by rw [e]
                have cj := tabF_at hT (Nat.zero_le j) (by omega)
                have ck := tabF_at hT (Nat.zero_le gk) hkx
                have hfr := fF_room' x gk hkx
                have wq : IntKind.i64.wrap (1 + (fF x gk : Int)) = 1 + (fF x gk : Int) := IntWalk.i64_in _ (by omega)
                have hjn : (j : Int) < (x.size : Int) + 1 := by omega
                have hkn : (gk : Int) < (x.size : Int) + 1 := by omega
                have hjn' : j < x.size + 1 := by omega
                have hkn' : gk < x.size + 1 := by omega
                by_cases ht : palS x j gk = true
                · rw [show palB (bl (x.extract j gk)) = true from ht] at CP
                  have CQ := Lib.hid CP
                  by_cases hf : fF x j = fF x gk + 1
                  · have HV : Hid (nj = gk) := Lib.hid (by rw [← HN.out, hg2]; exact nxS_hit (by rw [← hg2]; exact ⟨ht, hf⟩))
                    have heq : ((fF x j : Int) == 1 + (fF x gk : Int)) = true := by rw [beq_iff_eq]; omega
                    generalize fF x j = fj at *
                    generalize fF x gk = fk at *
                    have hbz := hB.size
                    have hownD : ∀ n, OwnS (wr.drewN n) w.heap.size u8 L := fun n => hown.below ((Below.refl _ _).drewN n)
                    clear CP ht hf hg2 n1 n2 n3 n4
                    have hys : (x.extract j gk).size ≤ 60 := by simp; omega
                    generalize x.extract j gk = y at *
                    go_wp2
                    go_quiet ((go_at_call 32; exact Calls.quiet_of (CQ.out _)))
                    go_wp2_with (at_builtin; refine wpList_append_own_at _ rfl _ _ 25 rfl w.heap.size 9 i1 (.string ⟨#[]⟩) 1 16 Tryz.underlying25 hi1 hy0 hy1 hy2 rfl (by decide) _ _ _ rfl (World.ownsRow.alloc (hownD _) _) ⟨_, 0, none⟩ 1 1 [.string y] rfl rfl (cell_new _ _ _) (by intro u hu; simp at hu; subst hu; rfl) (by unfold maxLen; omega) (by omega) (by simp; omega) ?_; intro v' w4 hown' hgrow _ hat)
                    have hG4 := (World.ownsRow.lt hT G rfl)
                    have hT4 : TabF w4 w.heap.size G x ((fL x 0).map (Value.int .i64)) := World.ownsRow.kept (World.ownsRow.alloc (own_below hT ((Below.refl _ _).drewN _)) _) hgrow (.inr fun e => by have := e.symm; exact (hne G this) rfl)
                    have hB4 : Below w.heap.size w w4 := ((hB.drewN _).alloc (by simpa using hbz) _).grown hgrow (by simp; omega) (fun q hq => (hown.lt q hq).1)
                    go_wp2
                    go_roundg g
                    case measure => omega
                    case rel =>
                      refine ⟨gk, L ++ [y], by omega, hkx, rfl, ?_, ?_, by simp; omega, ?_, hT4, hB4⟩
                      · unfold OwnS
                        rw [List.length_append, List.map_append]
                        exact hown'
                      · intro q hq
                        rcases hat with e | e
                        · rw [e] at hq; exact hne q hq
                        · rw [e] at hq
                          have := Option.some.inj hq
                          simp at this
                          omega
                      · exact Lib.hid (by rw [← HL.out, HST.out, List.append_assoc, ← HE.out HV.out.symm, HV.out]; rfl)
                  · have HN2 : Hid (nxS x j g2 = nj) := Lib.hid (by rw [← HN.out, hg2]; exact (nxS_miss (by rw [← hg2]; exact fun c => hf c.2)).symm)
                    have heq : ((fF x j : Int) == 1 + (fF x gk : Int)) = false := by rw [beq_eq_false_iff_ne]; omega
                    generalize fF x j = fj at *
                    generalize fF x gk = fk at *
                    have HG := Lib.hid hg2
                    clear CP ht hf hg2 n1 n2 n3 n4
                    generalize x.extract j gk = y at *
                    go_wp2
                    go_quiet ((go_at_call 32; exact Calls.quiet_of (CQ.out _)))
                    go_wp2
                    go_roundg g2
                    case measure => have := HG.out; omega
                    case rel => exact ⟨by have := HG.out; omega, rfl, rfl, by have := HG.out; go_num, HN2, hown.below ((Below.refl _ _).drewN _), own_below hT ((Below.refl _ _).drewN _), hB.drewN _⟩
                · have ht2 : palS x j gk = false := by simpa using ht
                  rw [show palB (bl (x.extract j gk)) = false from ht2] at CP
                  have CQ := Lib.hid CP
                  have HN2 : Hid (nxS x j g2 = nj) := Lib.hid (by rw [← HN.out, hg2]; exact (nxS_miss (by rw [← hg2]; exact fun c => ht c.1)).symm)
                  generalize fF x j = fj at *
                  generalize fF x gk = fk at *
                  have HG := Lib.hid hg2
                  clear CP ht ht2 hg2 n1 n2 n3 n4
                  generalize x.extract j gk = y at *
                  go_wp2
                  go_quiet ((go_at_call 32; exact Calls.quiet_of (CQ.out _)))
                  go_wp2
                  go_roundg g2
                  case measure => have := HG.out; omega
                  case rel => exact ⟨by have := HG.out; omega, rfl, rfl, by have := HG.out; go_num, HN2, hown.below ((Below.refl _ _).drewN _), own_below hT ((Below.refl _ _).drewN _), hB.drewN _⟩
              · exfalso
                have h1 := HN.out
                have h2 := nxS_room x j gk
                omega
          · obtain rfl : j = x.size := by omega
            have hpi : ¬ (x.size : Int) < (x.size : Int) := by omega
            have HLL : Hid (L = pt x 0) := Lib.hid (by rw [← HL.out, pt_end (Nat.lt_irrefl _), List.append_nil])
            have HO := Lib.hid hown
            clear hown hT HL hp
            go_wp2
            go_ret2
            exact ⟨_, rfl, by rw [← HLL.out]; exact HO.out, hB⟩
  · rw [partsPR_bad h]
    have H := Lib.hid h
    clear h
    go_enter Tryz.func7, Tryz.ntmps7
    go_wp2_with fail
    refine (l01Is_no x _ sx H.out).mono ?_
    rintro e w1 ⟨rfl, b1⟩
    go_wp2_with fail
    go_ret2
    exact ⟨_, rfl, OwnS.nil _ _, b1⟩

end Go.Proofs.YtddfdciohnabbacGreat
