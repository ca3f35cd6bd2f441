/- The lists of lengths, in the model. -/
import Derived.Test.YtfipbnognjepkaaDoorGivS
import Derived.WalkSmall
namespace Go.Proofs.YtfipbnognjepkaaDoor
set_option linter.unusedVariables false
set_option linter.unusedSimpArgs false
open Go.RowKit

theorem infoIntG : (Tryd.prog.info? 3).map (fun i => (i.zero, i.size, i.bytes)) = some (some (.int .i64 0), 1, 8) := by kernel_rfl
def vsFrom (P : List UInt8) (k : Nat) : List Nat := ([0, 1, 2].drop k).filter fun v => decide (0 < cntV P v)
theorem vsFrom_zero (P : List UInt8) : vsFrom P 0 = vsOf P := rfl
theorem vsFrom_hit {P : List UInt8} {k : Nat} (hk : k < 3) (h : 0 < cntV P k) : vsFrom P k = k :: vsFrom P (k + 1) := by
  have hk3 : k = 0 ∨ k = 1 ∨ k = 2 := by omega
  unfold vsFrom
  rcases hk3 with rfl | rfl | rfl <;> simp [List.filter_cons, h]
theorem vsFrom_miss {P : List UInt8} {k : Nat} (hk : k < 3) (h : cntV P k = 0) : vsFrom P k = vsFrom P (k + 1) := by
  have hk3 : k = 0 ∨ k = 1 ∨ k = 2 := by omega
  unfold vsFrom
  rcases hk3 with rfl | rfl | rfl <;> simp [List.filter_cons, h]
def LenAns (R P : List UInt8) (k : Nat) (L : Nat → Nat) (left B : Nat) (e : Ending) (w' : World) : Prop :=
  match srch R P (vsFrom P k) L left with
  | none => ∃ v, e = .returned (.tuple #[v, .bool false])
  | some W => ∃ v, e = .returned (.tuple #[v, .bool true]) ∧ OwnS w' B v (outsV W 3)
theorem cntV_take (P : List UInt8) (v : Nat) : ∀ (i : Nat) (h : i < P.length), cntV (P.take (i + 1)) v = cntV (P.take i) v + (if vn (P[i]'h) = v then 1 else 0) := by
  induction P with
  | nil => intro i h; simp at h
  | cons c P ih =>
    intro i h
    cases i with
    | zero => rw [List.take_succ_cons, cntV_cons]; simp [cntV]
    | succ i =>
      have := ih i (by simpa using h)
      rw [List.take_succ_cons, cntV_cons, this, List.take_succ_cons, cntV_cons, List.getElem_cons_succ]
      omega
def lensV (L : Nat → Nat) (k : Nat) : List Value := (List.range k).map fun j => Value.int .i64 ((L j : Nat) : Int)
theorem lensV_len (L : Nat → Nat) (k : Nat) : (lensV L k).length = k := by simp [lensV]
theorem lensV_get {L : Nat → Nat} {k j : Nat} (h : j < k) : (lensV L k)[j]? = some (.int .i64 ((L j : Nat) : Int)) := by simp [lensV, h]
theorem lensV_snoc (L : Nat → Nat) (k n : Nat) : lensV L k ++ [.int .i64 (n : Int)] = lensV (updV L k n) (k + 1) := by
  unfold lensV
  rw [List.range_succ, List.map_append]
  congr 1
  · refine List.map_congr_left fun j hj => ?_
    rw [updV_ne _ _ (by have := List.mem_range.1 hj; omega)]
  · simp [updV_at]
theorem lensV_snoc0 (L : Nat → Nat) (k : Nat) : lensV L k ++ [.int .i64 0] = lensV (updV L k 0) (k + 1) := lensV_snoc L k 0
def NoneS {β : Type} (F : Nat → Option β) (m : Nat) : Prop := ∀ k, 1 ≤ k → k < m → F k = none
theorem lens_news {w : World} {b k : Nat} {L : Nat → Nat} (h : LensAt w b L k) : ∀ j u, (lensV L k)[j]? = some u → w.cell? ((⟨b, 0, none⟩ : Addr).add j) = some u := by
  intro j u hu
  have hj : j < k := by have := (List.getElem?_eq_some_iff.1 hu).1; rwa [lensV_len] at this
  rw [lensV_get hj] at hu
  cases hu
  rw [Addr.add_lit, Nat.zero_add, h.2 j hj]
theorem lens_one (L : Nat → Nat) (k : Nat) : ∀ u ∈ lensV L k, u.oneCell' = true := by
  intro u hu
  unfold lensV at hu
  obtain ⟨j, _, rfl⟩ := List.mem_map.1 hu
  rfl
theorem lens_at {w : World} {B g cap k : Nat} {L : Nat → Nat} (h : w.ownsRow B 3 1 (.slice (some ⟨g, 0, none⟩) k cap) k (lensV L k)) : LensAt w g L k :=
  ⟨(h.lt g rfl).2, fun j hj => by rw [h.cellAt j (by omega)]; exact lensV_get hj⟩
theorem own_slice {w : World} {B : Nat} {e : TypeId} {v : Value} {n : Nat} {xs : List Value} (h : w.ownsRow B e 1 v n xs) (hv : v ≠ .slice none 0 0) : ∃ g cap, v = .slice (some ⟨g, 0, none⟩) n cap := by
  obtain ⟨_, ⟨h0, _⟩ | ⟨g, cap, cur, rfl, _⟩⟩ := h
  · exact absurd h0 hv
  · exact ⟨g, cap, rfl⟩

set_option maxRecDepth 100000 in
set_option maxHeartbeats 8000000 in
theorem l10Lengths_any (P R : List UInt8) (hP : IsPL P) (hP8 : P.length ≤ 8) (hR : R.length ≤ 60) : ∀ (d k : Nat) (L : Nat → Nat) (b cap : Nat) (w : World), k + d = 3 → (∀ j, L j ≤ 60) → (∀ j, k ≤ j → L j = 0) → totL L P ≤ R.length → LensAt w b L k →
    Calls Tryd.prog 67 #[.string (bt R), .string (bt P), .slice (some ⟨b, 0, none⟩) k cap] w fun e w' => LenAns R P k L (R.length - totL L P) w.heap.size e w' ∧ Below w.heap.size w w'
  | 0, k, L, b, cap, w, hkd, hL, hL0, htot, hT => by
    obtain rfl : k = 3 := by omega
    have CG := Lib.hid (fun W hW => l10Given_any P R L b cap W hP hP8 hR hL hW)
    have HT := Lib.hid hT
    have hv3 : vsFrom P 3 = [] := rfl
    have hans : ∀ e w', GivAns R P L w.heap.size e w' → LenAns R P 3 L (R.length - totL L P) w.heap.size e w' := by
      intro e w' h
      unfold LenAns
      rw [hv3, srch]
      rcases h with ⟨v, rfl, h⟩ | ⟨v, W, rfl, h1, h2, h3⟩
      · by_cases e0 : R.length - totL L P = 0
        · rw [if_pos e0]
          rcases h with h | h
          · omega
          · rw [h]; exact ⟨v, rfl⟩
        · rw [if_neg e0]; exact ⟨v, rfl⟩
      · rw [if_pos (by omega), h2]
        exact ⟨v, rfl, h3⟩
    have HA := Lib.hid hans
    clear hans hL hL0 htot hT hv3
    go_enter Tryd.func67, Tryd.ntmps67
    go_wp2_with (go_at_call 131; refine (CG.out _ HT.out).mono ?_; rintro e w1 ⟨h1, b1⟩; have h2 := HA.out _ _ h1; rcases h1 with ⟨v, rfl, h3⟩ | ⟨v, W, rfl, h3, h4, h5⟩)
    · go_ret2
      exact ⟨h2, b1⟩
    · go_ret2
      exact ⟨h2, b1⟩
  | d + 1, k, L, b, cap, w, hkd, hL, hL0, htot, hT => by
    obtain ⟨i0, hi, hz0, hz1, hz2⟩ := info_parts infoIntG
    have hk3 : k < 3 := by omega
    have hps : (bt P).size = P.length := bt_size P
    have hrs : (bt R).size = R.length := bt_size R
    have hbs := hT.1
    have HP := Lib.hid hP
    have HT := Lib.hid hT
    have HL := Lib.hid hL
    have HL0 := Lib.hid hL0
    have hk0 : ((k : Int) == 3) = false := by rw [beq_eq_false_iff_ne]; omega
    have hu8 : IntKind.u8.wrap (65 + (k : Int)) = 65 + (k : Int) := IntWalk.u8_in _ (by omega)
    have hsm : ∀ i, totL L (P.take i) ≤ 480 := fun i => by
      have h1 : ∀ Q : List UInt8, totL L Q ≤ 60 * Q.length := fun Q => by
        induction Q with
        | nil => exact Nat.le_refl _
        | cons c Q ih => rw [totL, List.length_cons]; have := hL (vn c); omega
      have h2 := h1 (P.take i)
      rw [List.length_take] at h2
      omega
    have hcm : ∀ i, cntV (P.take i) k ≤ 8 := fun i => by
      have h1 := List.length_filter_le (fun c => decide (vn c = k)) (P.take i)
      rw [List.length_take] at h1
      unfold cntV; omega
    have HSM := Lib.hid hsm
    have HCM := Lib.hid hcm
    clear hP hT hL hL0 hsm hcm
    go_enter Tryd.func67, Tryd.ntmps67
    go_wp2_with fail
    go_loopw [9, 10, 11] (fun s9 s10 s11 wr => wr = w ∧ ∃ i : Nat, i ≤ P.length ∧ s11 = .int .i64 (i : Int) ∧ s9 = .int .i64 ((totL L (P.take i) : Nat) : Int) ∧ s10 = .int .i64 ((cntV (P.take i) k : Nat) : Int)) (fun _ _ s11 _ => P.length - (intOf s11).toNat)
    case atStart => exact ⟨rfl, 0, Nat.zero_le _, rfl, by simp [totL], by simp [cntV]⟩
    case round =>
      obtain ⟨rfl, i, hi1, rfl, rfl, rfl⟩ := hrel
      by_cases hp' : i < P.length
      · have hcm : P[i]'hp' ∈ P := List.getElem_mem hp'
        obtain ⟨hc1, hc2⟩ := HP.out _ hcm
        have htk := totL_takeG L P i hp'
        have hct := cntV_take P k i hp'
        obtain ⟨j, hj⟩ : ∃ j, vn (P[i]'hp') = j := ⟨_, rfl⟩
        have hj3 : j < 3 := by rw [← hj]; unfold vn; omega
        have hck : ((P[i]'hp').toNat : Int) = 65 + (j : Int) := by rw [← hj]; unfold vn; omega
        have hidx : ∀ W, (Instr.index 9 (.string (bt P)) (.int .i64 (i : Int))).run Tryd.prog W = .ok (.int .u8 (65 + (j : Int))) W := fun W => by
          rw [run_index_string (h := Tryd.underlying9), dif_pos ⟨by omega, by rw [hps]; omega⟩, ← hck]; rfl
        rw [hj] at htk hct
        have hS := HSM.out i
        have hC := HCM.out i
        have hLj := HL.out j
        have hA1 : ((totL L (P.take (i + 1)) : Nat) : Int) = (totL L (P.take i) : Int) + (L j : Int) := by omega
        have HA1 := Lib.hid hA1
        have HCT := Lib.hid hct
        clear htk hct hA1 hck hj hcm
        by_cases hjk : j = k
        · have hL00 : L j = 0 := HL0.out j (by omega)
          have HL00 := Lib.hid hL00
          have hq : ((65 + (j : Int)) == 65 + (k : Int)) = true := by rw [beq_iff_eq]; omega
          have hlt : ¬ (j : Int) < (k : Int) := by omega
          have hC1 : ((cntV (P.take (i + 1)) k : Nat) : Int) = (cntV (P.take i) k : Int) + 1 := by have := HCT.out; rw [if_pos hjk] at this; omega
          have HC1 := Lib.hid hC1
          clear hL00 hC1 hjk
          generalize totL L (P.take i) = A at *
          generalize cntV (P.take i) k = C at *
          go_wp2_with fail
          go_roundw
          case rel => exact ⟨(by first | rfl | trivial), i + 1, by omega, by go_num, by rw [HA1.out, HL00.out]; simp, by rw [HC1.out]⟩
          case measure => simp [intOf]; omega
        · have hq : ((65 + (j : Int)) == 65 + (k : Int)) = false := by rw [beq_eq_false_iff_ne]; omega
          have hC1 : cntV (P.take (i + 1)) k = cntV (P.take i) k := by have := HCT.out; rw [if_neg hjk] at this; omega
          have HC1 := Lib.hid hC1
          clear hC1
          by_cases hlt : j < k
          · have kl := HT.out.2 j hlt
            generalize totL L (P.take i) = A at *
            generalize cntV (P.take i) k = C at *
            go_wp2_with fail
            go_roundw
            case rel => exact ⟨(by first | rfl | trivial), i + 1, by omega, by go_num, by rw [HA1.out], by rw [HC1.out]⟩
            case measure => simp [intOf]; omega
          · have hL00 : L j = 0 := HL0.out j (by omega)
            have HL00 := Lib.hid hL00
            clear hL00 hjk
            generalize totL L (P.take i) = A at *
            generalize cntV (P.take i) k = C at *
            go_wp2_with fail
            go_roundw
            case rel => exact ⟨(by first | rfl | trivial), i + 1, by omega, by go_num, by rw [HA1.out, HL00.out]; simp, by rw [HC1.out]⟩
            case measure => simp [intOf]; omega
      · obtain rfl : i = P.length := by omega
        rw [List.take_length]
        have hcl := HCM.out P.length
        rw [List.take_length] at hcl
        by_cases hc0 : cntV P k = 0
        · have hq0 : (((cntV P k : Nat) : Int) == 0) = true := by rw [beq_iff_eq]; omega
          have hup : updV L k 0 = L := by
            funext j
            by_cases e : j = k
            · rw [e, updV_at, HL0.out k (Nat.le_refl _)]
            · rw [updV_ne _ _ e]
          have CI := Lib.hid (fun (W : World) (g c : Nat) (h : LensAt W g (updV L k 0) (k + 1)) => by
            rw [hup] at h
            exact l10Lengths_any P R HP.out hP8 hR d (k + 1) L g c W (by omega) HL.out (fun j hj => HL0.out j (by omega)) htot h)
          have hvm := vsFrom_miss hk3 hc0
          have HVM := Lib.hid hvm
          clear hup hvm hc0
          generalize cntV P k = C at *
          cases hr : srch R P (vsFrom P (k + 1)) L (R.length - totL L P) with
          | none =>
            have HR := Lib.hid hr
            clear hr
            go_wp2_with (first | (at_builtin; refine wpList_append_own _ rfl (.tmp 62) (.tmp 63) 47 rfl wr.heap.size 3 i0 (.int .i64 0) 1 8 Tryd.underlying47 hi hz0 hz1 hz2 rfl (by decide) _ 0 [] rfl (own_empty wr 3) ⟨b, 0, none⟩ k cap (lensV L k) rfl (by rw [lensV_len, Nat.mul_one]) (lens_news (HT.out.past (Below.new wr _))) (lens_one L k) (by unfold maxLen; omega) (by omega) (by simp) ?_; intro v1 x1 hown1 hgrow1 hnil1; have hv1 : v1 ≠ .slice none 0 0 := (fun q => by have := (hnil1.1 q).1; cases this); rw [Nat.zero_add, List.nil_append] at hown1; obtain ⟨g1, cap1, rfl⟩ := own_slice hown1 hv1; have hx1 : Below wr.heap.size wr x1 := (Below.new wr _).grown hgrow1 (by simp) (fun q hq => by cases hq; exact Nat.le_refl _); have hx1z := hx1.size; have HO1 := Lib.hid hown1; clear hown1 hgrow1 hnil1 hv1) | (at_builtin; refine wpList_append_own _ rfl (.tmp 64) (.tmp 65) 47 rfl wr.heap.size 3 i0 (.int .i64 0) 1 8 Tryd.underlying47 hi hz0 hz1 hz2 rfl (by decide) _ k (lensV L k) rfl (World.ownsRow.alloc HO1.out _) ⟨_, 0, none⟩ 1 1 [.int .i64 0] rfl rfl (cell_new _ _ _) (by intro u hu; simp at hu; subst hu; rfl) (by unfold maxLen; omega) (by omega) (by simp; omega) ?_; intro v2 x2 hown2 hgrow2 hnil2; obtain ⟨g2, cap2, rfl, hg2, hg2l, hc2⟩ := own_blk hown2; have hx2 : Below wr.heap.size wr x2 := (hx1.alloc hx1z _).grown hgrow2 (by simp; omega) (fun q hq => (HO1.out.lt q hq).1); rw [lensV_snoc0 L k] at hown2; have hla := lens_at hown2; clear hown2 hgrow2 hnil2) | (go_at_call 67; refine (CI.out _ _ _ hla).mono ?_; rintro e x3 ⟨he, b3⟩; unfold LenAns at he; rw [HR.out] at he; obtain ⟨v3, rfl⟩ := he))
            go_ret2
            exact ⟨by unfold LenAns; rw [HVM.out, HR.out]; exact ⟨_, rfl⟩, hx2.then b3⟩
          | some W =>
            have HR := Lib.hid hr
            clear hr
            go_wp2_with (first | (at_builtin; refine wpList_append_own _ rfl (.tmp 62) (.tmp 63) 47 rfl wr.heap.size 3 i0 (.int .i64 0) 1 8 Tryd.underlying47 hi hz0 hz1 hz2 rfl (by decide) _ 0 [] rfl (own_empty wr 3) ⟨b, 0, none⟩ k cap (lensV L k) rfl (by rw [lensV_len, Nat.mul_one]) (lens_news (HT.out.past (Below.new wr _))) (lens_one L k) (by unfold maxLen; omega) (by omega) (by simp) ?_; intro v1 x1 hown1 hgrow1 hnil1; have hv1 : v1 ≠ .slice none 0 0 := (fun q => by have := (hnil1.1 q).1; cases this); rw [Nat.zero_add, List.nil_append] at hown1; obtain ⟨g1, cap1, rfl⟩ := own_slice hown1 hv1; have hx1 : Below wr.heap.size wr x1 := (Below.new wr _).grown hgrow1 (by simp) (fun q hq => by cases hq; exact Nat.le_refl _); have hx1z := hx1.size; have HO1 := Lib.hid hown1; clear hown1 hgrow1 hnil1 hv1) | (at_builtin; refine wpList_append_own _ rfl (.tmp 64) (.tmp 65) 47 rfl wr.heap.size 3 i0 (.int .i64 0) 1 8 Tryd.underlying47 hi hz0 hz1 hz2 rfl (by decide) _ k (lensV L k) rfl (World.ownsRow.alloc HO1.out _) ⟨_, 0, none⟩ 1 1 [.int .i64 0] rfl rfl (cell_new _ _ _) (by intro u hu; simp at hu; subst hu; rfl) (by unfold maxLen; omega) (by omega) (by simp; omega) ?_; intro v2 x2 hown2 hgrow2 hnil2; obtain ⟨g2, cap2, rfl, hg2, hg2l, hc2⟩ := own_blk hown2; have hx2 : Below wr.heap.size wr x2 := (hx1.alloc hx1z _).grown hgrow2 (by simp; omega) (fun q hq => (HO1.out.lt q hq).1); rw [lensV_snoc0 L k] at hown2; have hla := lens_at hown2; clear hown2 hgrow2 hnil2) | (go_at_call 67; refine (CI.out _ _ _ hla).mono ?_; rintro e x3 ⟨he, b3⟩; unfold LenAns at he; rw [HR.out] at he; obtain ⟨v3, rfl, hown3⟩ := he))
            go_ret2
            exact ⟨by unfold LenAns; rw [HVM.out, HR.out]; exact ⟨_, rfl, own_base hown3 hx2.size⟩, hx2.then b3⟩
        · have hcp : 0 < cntV P k := by omega
          have hq0 : (((cntV P k : Nat) : Int) == 0) = false := by rw [beq_eq_false_iff_ne]; omega
          have hvh := vsFrom_hit hk3 hcp
          have htu := fun n => totL_upd L k n (HL0.out k (Nat.le_refl _)) P
          have HTU := Lib.hid htu
          obtain ⟨T, hTe⟩ : ∃ T, totL L P = T := ⟨_, rfl⟩
          obtain ⟨c, hce⟩ : ∃ c, cntV P k = c := ⟨_, rfl⟩
          obtain ⟨F, hF⟩ : ∃ F : Nat → Option (Nat → List UInt8), (fun n => if n * c ≤ R.length - T then srch R P (vsFrom P (k + 1)) (updV L k n) (R.length - T - n * c) else none) = F := ⟨_, rfl⟩
          have hsr : srch R P (vsFrom P k) L (R.length - totL L P) = (List.range' 1 (R.length - T)).findSome? F := by
            rw [hvh, srch, ← hF, hce, hTe]
          have HSR := Lib.hid hsr
          have HF := Lib.hid hF
          have HTE := Lib.hid hTe
          have HCE := Lib.hid hce
          rw [hTe] at htot ⊢
          rw [hce] at hcp hq0 hcl ⊢
          clear hsr hF hvh hc0 htu
          go_wp2_with fail
          obtain ⟨wo, rfl⟩ : ∃ wo, wo = wr := ⟨_, rfl⟩
          go_loopw [12] (fun s12 wq => ∃ n : Nat, 1 ≤ n ∧ n ≤ R.length + 1 ∧ s12 = .int .i64 (n : Int) ∧ NoneS F n ∧ Below wo.heap.size wo wq) (fun s12 _ => R.length + 1 - (intOf s12).toNat)
          case atStart => exact ⟨1, Nat.le_refl _, by omega, rfl, fun a b q => by omega, Below.refl _ _⟩
          case round =>
            obtain ⟨n, hn1, hn2, rfl, hno, hB⟩ := hrel
            have HNO := Lib.hid hno
            have hBz := hB.size
            have emc : ((n * c : Nat) : Int) = (n : Int) * (c : Int) := Int.natCast_mul n c
            have hmc1 : n * c ≤ 61 * 8 := Nat.mul_le_mul (by omega) hcl
            have hmm : n ≤ n * c := Nat.le_mul_of_pos_right n hcp
            clear hno
            by_cases hle : T + n * c ≤ R.length
            · have hle2 : (T : Int) + (n : Int) * (c : Int) ≤ (R.length : Int) := by omega
              have hn60 : n ≤ 60 := by omega
              have hFn : F n = srch R P (vsFrom P (k + 1)) (updV L k n) (R.length - T - n * c) := by rw [← HF.out]; exact if_pos (by omega)
              have CI := Lib.hid (fun (W : World) (g cc : Nat) (h : LensAt W g (updV L k n) (k + 1)) => by
                have q := l10Lengths_any P R HP.out hP8 hR d (k + 1) (updV L k n) g cc W (by omega) (fun j => by
                  by_cases e : j = k
                  · rw [e, updV_at]; exact hn60
                  · rw [updV_ne _ _ e]; exact HL.out j) (fun j hj => by rw [updV_ne _ _ (by omega)]; exact HL0.out j (by omega)) (by rw [HTU.out, HTE.out, HCE.out]; exact hle) h
                rw [HTU.out, HTE.out, HCE.out, Nat.sub_add_eq] at q
                exact q)
              have HFN := Lib.hid hFn
              have HEMC := Lib.hid emc
              clear hFn emc
              cases hr : srch R P (vsFrom P (k + 1)) (updV L k n) (R.length - T - n * c) with
              | none =>
                have HR := Lib.hid hr
                clear hr
                go_wp2_with (first | (at_builtin; refine wpList_append_own _ rfl (.tmp 83) (.tmp 84) 47 rfl wr.heap.size 3 i0 (.int .i64 0) 1 8 Tryd.underlying47 hi hz0 hz1 hz2 rfl (by decide) _ 0 [] rfl (own_empty wr 3) ⟨b, 0, none⟩ k cap (lensV L k) rfl (by rw [lensV_len, Nat.mul_one]) (lens_news ((HT.out.past hB).past (Below.new wr _))) (lens_one L k) (by unfold maxLen; omega) (by omega) (by simp) ?_; intro v1 x1 hown1 hgrow1 hnil1; have hv1 : v1 ≠ .slice none 0 0 := (fun q => by have := (hnil1.1 q).1; cases this); rw [Nat.zero_add, List.nil_append] at hown1; obtain ⟨g1, cap1, rfl⟩ := own_slice hown1 hv1; have hx1 : Below wr.heap.size wr x1 := (Below.new wr _).grown hgrow1 (by simp) (fun q hq => by cases hq; exact Nat.le_refl _); have hx1z := hx1.size; have HO1 := Lib.hid hown1; clear hown1 hgrow1 hnil1 hv1) | (at_builtin; refine wpList_append_own _ rfl (.tmp 85) (.tmp 87) 47 rfl wr.heap.size 3 i0 (.int .i64 0) 1 8 Tryd.underlying47 hi hz0 hz1 hz2 rfl (by decide) _ k (lensV L k) rfl (World.ownsRow.alloc HO1.out _) ⟨_, 0, none⟩ 1 1 [.int .i64 (n : Int)] rfl rfl (cell_new _ _ _) (by intro u hu; simp at hu; subst hu; rfl) (by unfold maxLen; omega) (by omega) (by simp; omega) ?_; intro v2 x2 hown2 hgrow2 hnil2; obtain ⟨g2, cap2, rfl, hg2, hg2l, hc2⟩ := own_blk hown2; have hx2 : Below wr.heap.size wr x2 := (hx1.alloc hx1z _).grown hgrow2 (by simp; omega) (fun q hq => (HO1.out.lt q hq).1); rw [lensV_snoc L k n] at hown2; have hla := lens_at hown2; clear hown2 hgrow2 hnil2) | (go_at_call 67; refine (CI.out _ _ _ hla).mono ?_; rintro e x3 ⟨he, b3⟩; unfold LenAns at he; rw [HR.out] at he; obtain ⟨v3, rfl⟩ := he))
                go_roundw
                case rel =>
                  have hno2 : NoneS F (n + 1) := fun a b q => by
                    by_cases e : a < n
                    · exact HNO.out a b e
                    · rw [show a = n by omega, HFN.out, HR.out]
                  exact ⟨n + 1, by omega, by omega, by go_num, hno2, hB.then (hx2.then b3)⟩
                case measure => simp [intOf]; omega
              | some W =>
                have HR := Lib.hid hr
                clear hr
                go_wp2_with (first | (at_builtin; refine wpList_append_own _ rfl (.tmp 83) (.tmp 84) 47 rfl wr.heap.size 3 i0 (.int .i64 0) 1 8 Tryd.underlying47 hi hz0 hz1 hz2 rfl (by decide) _ 0 [] rfl (own_empty wr 3) ⟨b, 0, none⟩ k cap (lensV L k) rfl (by rw [lensV_len, Nat.mul_one]) (lens_news ((HT.out.past hB).past (Below.new wr _))) (lens_one L k) (by unfold maxLen; omega) (by omega) (by simp) ?_; intro v1 x1 hown1 hgrow1 hnil1; have hv1 : v1 ≠ .slice none 0 0 := (fun q => by have := (hnil1.1 q).1; cases this); rw [Nat.zero_add, List.nil_append] at hown1; obtain ⟨g1, cap1, rfl⟩ := own_slice hown1 hv1; have hx1 : Below wr.heap.size wr x1 := (Below.new wr _).grown hgrow1 (by simp) (fun q hq => by cases hq; exact Nat.le_refl _); have hx1z := hx1.size; have HO1 := Lib.hid hown1; clear hown1 hgrow1 hnil1 hv1) | (at_builtin; refine wpList_append_own _ rfl (.tmp 85) (.tmp 87) 47 rfl wr.heap.size 3 i0 (.int .i64 0) 1 8 Tryd.underlying47 hi hz0 hz1 hz2 rfl (by decide) _ k (lensV L k) rfl (World.ownsRow.alloc HO1.out _) ⟨_, 0, none⟩ 1 1 [.int .i64 (n : Int)] rfl rfl (cell_new _ _ _) (by intro u hu; simp at hu; subst hu; rfl) (by unfold maxLen; omega) (by omega) (by simp; omega) ?_; intro v2 x2 hown2 hgrow2 hnil2; obtain ⟨g2, cap2, rfl, hg2, hg2l, hc2⟩ := own_blk hown2; have hx2 : Below wr.heap.size wr x2 := (hx1.alloc hx1z _).grown hgrow2 (by simp; omega) (fun q hq => (HO1.out.lt q hq).1); rw [lensV_snoc L k n] at hown2; have hla := lens_at hown2; clear hown2 hgrow2 hnil2) | (go_at_call 67; refine (CI.out _ _ _ hla).mono ?_; rintro e x3 ⟨he, b3⟩; unfold LenAns at he; rw [HR.out] at he; obtain ⟨v3, rfl, hown3⟩ := he))
                go_ret2
                exact ⟨by unfold LenAns; rw [← HTE.out, HSR.out, seek_at HNO.out hn1 (by omega) (by rw [HFN.out, HR.out])]; exact ⟨_, rfl, own_base hown3 (by have := hx2.size; omega)⟩, hB.then (hx2.then b3)⟩
            · have hle2 : ¬ (T : Int) + (n : Int) * (c : Int) ≤ (R.length : Int) := by omega
              have hend : srch R P (vsFrom P k) L (R.length - totL L P) = none := by
                rw [HSR.out]
                refine seek_none fun a b q => ?_
                by_cases e : a < n
                · exact HNO.out a b e
                · rw [← HF.out]
                  have h3 : n * c ≤ a * c := Nat.mul_le_mul_right c (by omega)
                  exact if_neg (by omega)
              have HEND := Lib.hid hend
              have HEMC := Lib.hid emc
              clear hend emc
              go_wp2_with fail
              go_ret2
              exact ⟨by unfold LenAns; rw [← HTE.out, HEND.out]; exact ⟨_, rfl⟩, hB⟩

end Go.Proofs.YtfipbnognjepkaaDoor
