/- Values of given lengths, in the model. -/
import Derived.Test.YtfipbnognjepkaaDoorPatT
import Derived.Test.YtfipbnognjepkaaDoorInts
import Derived.Test.YtfipbnognjepkaaDoorOwn
import Derived.Test.YtfipbnognjepkaaDoorLonger
namespace Go.Proofs.YtfipbnognjepkaaDoor
set_option linter.unusedVariables false
set_option linter.unusedSimpArgs false
open Go.RowKit

/-- Three texts in a list of the call's own. -/
def ThreeO (w : World) (B g cap : Nat) (V : Nat → List UInt8) : Prop := w.ownsRow B 9 1 (.slice (some ⟨g, 0, none⟩) 3 cap) 3 [.string (bt (V 0)), .string (bt (V 1)), .string (bt (V 2))]
theorem ThreeO.at {w : World} {B g cap : Nat} {V : Nat → List UInt8} (h : ThreeO w B g cap V) {j : Nat} (hj : j < 3) : w.cell? ⟨g, j, none⟩ = some (.string (bt (V j))) := by
  rw [h.cellAt j (by omega)]
  have hj' : j = 0 ∨ j = 1 ∨ j = 2 := by omega
  rcases hj' with rfl | rfl | rfl <;> rfl
theorem ThreeO.set {w : World} {B g cap : Nat} {V : Nat → List UInt8} (h : ThreeO w B g cap V) {k : Nat} (hk : k < 3) (l : List UInt8) : ThreeO (w.setCell ⟨g, k, none⟩ (.string (bt l))) B g cap (updV V k l) := by
  have h2 := (h.stored k (.string (bt l))).1
  have e : [Value.string (bt (V 0)), .string (bt (V 1)), .string (bt (V 2))].set k (.string (bt l)) = [Value.string (bt (updV V k l 0)), .string (bt (updV V k l 1)), .string (bt (updV V k l 2))] := by
    have hk' : k = 0 ∨ k = 1 ∨ k = 2 := by omega
    rcases hk' with rfl | rfl | rfl <;> rfl
  rw [e] at h2
  exact h2
/-- The lengths of the three variables in a block. -/
def LensAt (w : World) (b : Nat) (L : Nat → Nat) (n : Nat) : Prop := b < w.heap.size ∧ ∀ j, j < n → w.cell? ⟨b, j, none⟩ = some (.int .i64 ((L j : Nat) : Int))
theorem LensAt.past {w w' : World} {b n : Nat} {L : Nat → Nat} (h : LensAt w b L n) (hB : Below w.heap.size w w') : LensAt w' b L n := ⟨Nat.lt_of_lt_of_le h.1 hB.size, fun j hj => by rw [(bcell hB).1 b j h.1]; exact h.2 j hj⟩
/-- The values in order, those that are told. -/
def outsV (V : Nat → List UInt8) (k : Nat) : List ByteArray := (([0, 1, 2].take k).filter fun v => decide (V v ≠ [])).map fun v => bt (V v)
theorem outsV_succ {V : Nat → List UInt8} {k : Nat} (hk : k < 3) : outsV V (k + 1) = outsV V k ++ (if V k ≠ [] then [bt (V k)] else []) := by
  have hk3 : k = 0 ∨ k = 1 ∨ k = 2 := by omega
  unfold outsV
  rcases hk3 with rfl | rfl | rfl <;> (simp only [List.take_succ_cons, List.take_zero, List.filter_cons, List.filter_nil]; repeat' split) <;> simp_all
theorem outsV_len (V : Nat → List UInt8) (k : Nat) : (outsV V k).length ≤ 3 := by
  unfold outsV
  rw [List.length_map]
  have h2 : (List.take k [0, 1, 2]).length ≤ 3 := by rw [List.length_take]; simp; omega
  exact Nat.le_trans (List.length_filter_le _ _) h2
/-- What is answered to given lengths. -/
def GivAns (R : List UInt8) (P : List UInt8) (L : Nat → Nat) (B : Nat) (e : Ending) (w' : World) : Prop :=
  (∃ v, e = .returned (.tuple #[v, .bool false]) ∧ (totL L P ≠ R.length ∨ giv L P R (fun _ => []) = none)) ∨
  (∃ v W, e = .returned (.tuple #[v, .bool true]) ∧ totL L P = R.length ∧ giv L P R (fun _ => []) = some W ∧ OwnS w' B v (outsV W 3))
theorem totL_drop (L : Nat → Nat) : ∀ (P : List UInt8) (i : Nat), totL L (P.take i) + totL L (P.drop i) = totL L P
  | [], i => by simp [totL]
  | c :: P, 0 => by simp [totL]
  | c :: P, i + 1 => by
    have := totL_drop L P i
    rw [List.take_succ_cons, List.drop_succ_cons, totL, totL]
    omega
theorem totL_takeG (L : Nat → Nat) : ∀ (P : List UInt8) (i : Nat) (h : i < P.length), totL L (P.take (i + 1)) = totL L (P.take i) + L (vn (P[i]'h))
  | [], i, h => by simp at h
  | c :: P, 0, h => by simp [totL]
  | c :: P, i + 1, h => by
    have := totL_takeG L P i (by simpa using h)
    rw [List.take_succ_cons, totL, this, List.take_succ_cons, totL, List.getElem_cons_succ]
    omega
theorem giv_noneG {L : Nat → Nat} {c : UInt8} {P R : List UInt8} {V : Nat → List UInt8} (h : ¬ (V (vn c) = [] ∨ V (vn c) = R.take (L (vn c)))) : giv L (c :: P) R V = none := by rw [giv, if_neg h]
theorem giv_stepG {L : Nat → Nat} {c : UInt8} {P R : List UInt8} {V : Nat → List UInt8} (h : V (vn c) = [] ∨ V (vn c) = R.take (L (vn c))) : giv L (c :: P) R V = giv L P (R.drop (L (vn c))) (updV V (vn c) (R.take (L (vn c)))) := by rw [giv, if_pos h]

def OkV (V : Nat → List UInt8) : Prop := ∀ j, (V j).length ≤ 60
theorem OkV.upd {V : Nat → List UInt8} (h : OkV V) (k : Nat) {l : List UInt8} (hl : l.length ≤ 60) : OkV (updV V k l) := by
  intro j
  by_cases e : j = k
  · rw [e, updV_at]; exact hl
  · rw [updV_ne _ _ e]; exact h j
set_option maxRecDepth 100000 in
theorem bt_part (l : List UInt8) (a n : Nat) (h : a + n ≤ l.length) (W : World) : (Instr.slice 9 (.string (bt l)) (some (.int .i64 (a : Int))) (some (.int .i64 ((a : Int) + (n : Int)))) none).run Tryd.prog W = .ok (.string (bt ((l.drop a).take n))) W := by
  have := run_slice_string (P := Tryd.prog) W 9 (bt l) .i64 .i64 (a : Int) ((a : Int) + (n : Int)) Tryd.underlying9 (by omega) (by omega) (by rw [bt_size]; omega)
  have e : (bt l).extract a (a + n) = bt ((l.drop a).take n) := bl_inj (by rw [bl_extract, show a + n - a = n by omega]; rfl)
  have e2 : ((a : Int) + (n : Int)).toNat = a + n := by omega
  simpa [e, e2] using this

set_option maxRecDepth 100000 in
set_option maxHeartbeats 8000000 in
theorem l10Given_any (P R : List UInt8) (L : Nat → Nat) (b cap : Nat) (w : World) (hP : IsPL P) (hP8 : P.length ≤ 8) (hR : R.length ≤ 60) (hL : ∀ j, L j ≤ 60) (hT : LensAt w b L 3) :
    Calls Tryd.prog 131 #[.string (bt R), .string (bt P), .slice (some ⟨b, 0, none⟩) 3 cap] w fun e w' => GivAns R P L w.heap.size e w' ∧ Below w.heap.size w w' := by
  obtain ⟨i0, hi, hz0, hz1, hz2⟩ := info_parts infoStrP
  have hps : (bt P).size = P.length := bt_size P
  have hrs : (bt R).size = R.length := bt_size R
  have hbs := hT.1
  have HP := Lib.hid hP
  have HT := Lib.hid hT
  have HL := Lib.hid hL
  have ho0 : ThreeO (w.alloc (.cells #[.string ⟨#[]⟩, .string ⟨#[]⟩, .string ⟨#[]⟩] 9)) w.heap.size w.heap.size 3 (fun _ => []) :=
    World.ownsRow_lit (e := 9) w #[.string ⟨#[]⟩, .string ⟨#[]⟩, .string ⟨#[]⟩] 3 (Nat.le_refl _) (by unfold maxLen; omega) rfl
  have HO0 := Lib.hid ho0
  clear hP hT hL ho0
  go_enter Tryd.func131, Tryd.ntmps131
  go_wp2_with fail
  go_loopw [9, 10] (fun s9 s10 wr => ∃ (i : Nat) (V : Nat → List UInt8), i ≤ P.length ∧ s10 = .int .i64 (i : Int) ∧ s9 = .int .i64 ((totL L (P.take i) : Nat) : Int) ∧ totL L (P.take i) ≤ R.length ∧
      Hid (giv L P R (fun _ => []) = giv L (P.drop i) (R.drop (totL L (P.take i))) V) ∧ ThreeO wr w.heap.size w.heap.size 3 V ∧ OkV V ∧ Below w.heap.size w wr) (fun _ s10 _ => P.length - (intOf s10).toNat)
  case atStart => exact ⟨0, fun _ => [], Nat.zero_le _, rfl, by simp [totL], by simp [totL], Lib.hid (by simp [totL]), HO0.out, fun j => Nat.zero_le _, Below.new _ _⟩
  case round =>
    obtain ⟨i, V, hi1, rfl, rfl, hA, HG, hTh, hOk, hB⟩ := hrel
    by_cases hp' : i < P.length
    · have hcm : P[i]'hp' ∈ P := List.getElem_mem hp'
      obtain ⟨hc1, hc2⟩ := HP.out _ hcm
      have htk := totL_takeG L P i hp'
      have hdr : P.drop i = P[i]'hp' :: P.drop (i + 1) := List.drop_eq_getElem_cons hp'
      have htd := totL_drop L P (i + 1)
      obtain ⟨k, hk⟩ : ∃ k, vn (P[i]'hp') = k := ⟨_, rfl⟩
      have hk3 : k < 3 := by rw [← hk]; unfold vn; omega
      have hck : ((P[i]'hp').toNat : Int) = (k : Int) + 65 := by rw [← hk]; unfold vn; omega
      have hidx : ∀ W, (Instr.index 9 (.string (bt P)) (.int .i64 (i : Int))).run Tryd.prog W = .ok (.int .u8 ((k : Int) + 65)) W := fun W => by
        rw [run_index_string (h := Tryd.underlying9), dif_pos ⟨by omega, by rw [hps]; omega⟩, ← hck]; rfl
      have hn60 := HL.out k
      have kl := (HT.out.past hB).2 k hk3
      have kv := hTh.at hk3
      have kf : wr.frozen? ⟨w.heap.size, k, none⟩ = false := hTh.frozenAt k
      have hVk := hOk k
      rw [hk] at htk
      obtain ⟨n, hn⟩ : ∃ n, L k = n := ⟨_, rfl⟩
      obtain ⟨A, hAe⟩ : ∃ A, totL L (P.take i) = A := ⟨_, rfl⟩
      rw [hn] at htk hn60 kl
      rw [hAe] at htk HG hA ⊢
      have HK := Lib.hid hk
      have HN := Lib.hid hn
      have HTK := Lib.hid htk
      have HTD := Lib.hid htd
      have HDR := Lib.hid hdr
      have HTH := Lib.hid hTh
      have HOK := Lib.hid hOk
      clear hk hn htk htd hdr hTh hOk hck hcm hAe
      have hstep : giv L (P.drop i) (R.drop A) V = giv L (P[i]'hp' :: P.drop (i + 1)) (R.drop A) V := by rw [HDR.out]
      have HST := Lib.hid hstep
      clear hstep
      by_cases hgt : R.length < A + n
      · have hend : ∀ w', GivAns R P L w.heap.size (.returned (.tuple #[.slice none 0 0, .bool false])) w' := fun w' => .inl ⟨_, rfl, .inl (by have := HTK.out; have := HTD.out; omega)⟩
        have HE := Lib.hid hend
        clear hend
        go_wp2_with fail
        go_ret2
        exact ⟨HE.out _, hB⟩
      · have hs := fun W => bt_part R A n (by omega) W
        obtain ⟨own, hown⟩ : ∃ own, (R.drop A).take n = own := ⟨_, rfl⟩
        rw [hown] at hs
        have hol : own.length ≤ 60 := by rw [← hown, List.length_take]; omega
        have HOW := Lib.hid hown
        clear hown
        have hcont : (V k = [] ∨ V k = own) → giv L P R (fun _ => []) = giv L (P.drop (i + 1)) (R.drop (A + n)) (updV V k own) := fun h => by
          rw [HG.out, HST.out, giv_stepG (by rw [HK.out, HN.out, HOW.out]; exact h), HK.out, HN.out, HOW.out, List.drop_drop]
        have HCO := Lib.hid hcont
        have HB2 := Lib.hid (hB.setCell (p := ⟨w.heap.size, k, none⟩) (Nat.le_refl _) (.string (bt own)))
        have HT2 := Lib.hid (HTH.out.set hk3 own)
        have hTA : ((totL L (P.take (i + 1)) : Nat) : Int) = (A : Int) + (n : Int) := by have := HTK.out; omega
        have HTA := Lib.hid hTA
        have hle2 : A + n ≤ R.length := by omega
        clear hcont hTA
        by_cases h0 : V k = []
        · have hye : (bt (V k)).toList.isEmpty = true := by rw [bt_empty, h0]; rfl
          have H0 := Lib.hid h0
          clear h0
          generalize bt (V k) = y at *
          go_wp2_with fail
          go_roundw
          case rel => exact ⟨i + 1, updV V k own, by omega, by go_num, by rw [HTA.out], by have := HTK.out; omega, Lib.hid (by rw [HTK.out]; exact HCO.out (.inl H0.out)), HT2.out, HOK.out.upd k hol, HB2.out⟩
          case measure => simp [intOf]; omega
        · have hye : (bt (V k)).toList.isEmpty = false := by
            rw [bt_empty]
            cases e : V k with
            | nil => exact absurd e h0
            | cons a t => rfl
          by_cases heq : V k = own
          · have hq : ((bt (V k)).toList == (bt own).toList) = true := by rw [heq]; exact beq_self_eq_true _
            have H1 := Lib.hid heq
            clear heq h0
            generalize bt (V k) = y at *
            generalize hoy : bt own = z at *
            go_wp2_with fail
            go_roundw
            case rel => exact ⟨i + 1, updV V k own, by omega, by go_num, by rw [HTA.out], by have := HTK.out; omega, Lib.hid (by rw [HTK.out]; exact HCO.out (.inr H1.out)), HT2.out, HOK.out.upd k hol, HB2.out⟩
            case measure => simp [intOf]; omega
          · have hq : ((bt (V k)).toList == (bt own).toList) = false := bt_eq_no heq
            have hgn : giv L P R (fun _ => []) = none := by
              rw [HG.out, HST.out]
              apply giv_noneG
              rw [HK.out, HN.out, HOW.out]
              rintro (e | e)
              · exact h0 e
              · exact heq e
            have hend : ∀ w', GivAns R P L w.heap.size (.returned (.tuple #[.slice none 0 0, .bool false])) w' := fun w' => .inl ⟨_, rfl, .inr hgn⟩
            have HE := Lib.hid hend
            clear hend hgn heq h0
            generalize bt (V k) = y at *
            generalize bt own = z at *
            go_wp2_with fail
            go_ret2
            exact ⟨HE.out _, hB⟩
    · obtain rfl : i = P.length := by omega
      rw [List.take_length] at HG hA ⊢
      have hg2 : giv L P R (fun _ => []) = some V := by
        have h := HG.out
        rw [List.drop_length, giv] at h
        exact h
      have HG2 := Lib.hid hg2
      have HTH := Lib.hid hTh
      have HOK := Lib.hid hOk
      obtain ⟨A, hAe⟩ : ∃ A, totL L P = A := ⟨_, rfl⟩
      rw [hAe] at hA ⊢
      have HA := Lib.hid hAe
      have hsz := hB.size
      clear hg2 HG hTh hOk hAe
      have hwlt : w.heap.size < wr.heap.size := (HTH.out.lt _ rfl).2
      go_wp2_with fail
      have HEO := Lib.hid (own_base (own_empty wr 9) (show w.heap.size + 1 ≤ wr.heap.size by omega))
      go_loopw [13, 14] (fun s13 s14 w2 => ∃ j : Nat, j ≤ 3 ∧ s14 = .int .i64 (j : Int) ∧ OwnS w2 (w.heap.size + 1) s13 (outsV V j) ∧ ThreeO w2 w.heap.size w.heap.size 3 V ∧ Below w.heap.size w w2 ∧ w.heap.size < w2.heap.size) (fun _ s14 _ => 3 - (intOf s14).toNat)
      case atStart => exact ⟨0, Nat.zero_le _, rfl, HEO.out, HTH.out.alloc _, hB.alloc hsz _, by simp; omega⟩
      case round =>
        obtain ⟨j, hj, rfl, hown, hTh2, hB2, hlt2⟩ := hrel
        by_cases hj3 : j < 3
        · have kj := hTh2.at hj3
          have hsn := outsV_succ (V := V) hj3
          have hol := outsV_len V j
          have hVj := HOK.out j
          have hzB2 := hB2.size
          have HSN := Lib.hid hsn
          clear hsn
          by_cases h0 : V j = []
          · rw [if_neg (not_not_intro h0), List.append_nil] at HSN
            have hye : (bt (V j)).toList.isEmpty = true := by rw [bt_empty, h0]; rfl
            clear h0
            generalize bt (V j) = y at *
            have HTH2 := Lib.hid hTh2
            have HOW := Lib.hid hown
            clear hTh2 hown
            go_wp2_with fail
            go_roundw
            case rel => exact ⟨j + 1, by omega, by go_num, by rw [HSN.out]; exact HOW.out, HTH2.out, hB2, hlt2⟩
            case measure => simp [intOf]; omega
          · rw [if_pos h0] at HSN
            have hye : (bt (V j)).toList.isEmpty = false := by
              rw [bt_empty]
              cases e : V j with
              | nil => exact absurd e h0
              | cons a t => rfl
            clear h0
            generalize bt (V j) = y at *
            generalize outsV V j = O at *
            go_wp2_with (at_builtin; refine wpList_append_own _ rfl _ _ 22 rfl (w.heap.size + 1) 9 i0 (.string ⟨#[]⟩) 1 16 Tryd.underlying22 hi hz0 hz1 hz2 rfl (by decide) _ _ _ rfl (World.ownsRow.alloc hown _) ⟨_, 0, none⟩ 1 1 [.string y] rfl rfl (cell_new _ _ _) (by intro u hu; simp at hu; subst hu; rfl) (by unfold maxLen; omega) (by omega) (by simp; omega) ?_; intro v' w3 hown' hgrow hnil)
            have hb3 : Below w.heap.size w w3 := (hB2.alloc (by omega) _).grown hgrow (by simp; omega) (fun q hq => by have := (hown.lt q hq).1; omega)
            have hlt3 : w.heap.size < w3.heap.size := by have := hgrow.size; simp at this; omega
            have hth3 : ThreeO w3 w.heap.size w.heap.size 3 V := World.ownsRow.kept (hTh2.alloc _) hgrow (.inr (fun e => by have h9 := (hown.lt w.heap.size e.symm).1; omega))
            have HTH3 := Lib.hid hth3
            have HOW3 := Lib.hid (ownS_snoc hown')
            clear hth3 hown' hgrow hnil hTh2
            go_roundw
            case rel => exact ⟨j + 1, by omega, by go_num, by rw [HSN.out]; exact HOW3.out, HTH3.out, hb3, hlt3⟩
            case measure => simp [intOf]; omega
        · obtain rfl : j = 3 := by omega
          have HOW := Lib.hid hown
          clear hown hTh2
          go_wp2_with fail
          go_ret2
          refine ⟨?_, hB2⟩
          by_cases e : A = R.length
          · have e1 : ((A : Int) == (R.length : Int)) = true := by rw [beq_iff_eq]; omega
            exact .inr ⟨_, V, congrArg (fun t => Ending.returned (.tuple #[_, .bool t])) e1, by rw [HA.out, e], HG2.out, own_base HOW.out (Nat.le_succ _)⟩
          · have e1 : ((A : Int) == (R.length : Int)) = false := by rw [beq_eq_false_iff_ne]; omega
            exact .inl ⟨_, congrArg (fun t => Ending.returned (.tuple #[_, .bool t])) e1, .inl (by rw [HA.out]; exact e)⟩

end Go.Proofs.YtfipbnognjepkaaDoor
