/- The values tried at a place with a list of lengths: a panic with them if they fit. -/
import Derived.Test.YtfipbnognjepkaaDoorFitV
namespace Go.Proofs.YtfipbnognjepkaaDoor
set_option linter.unusedVariables false
set_option linter.unusedSimpArgs false
open Go.RowKit

theorem giv_none {L : Nat → Nat} {c : UInt8} {P R : List UInt8} {V : Nat → List UInt8} (h : ¬ (V (vn c) = [] ∨ V (vn c) = R.take (L (vn c)))) : giv L (c :: P) R V = none := by rw [giv, if_neg h]
theorem giv_new {L : Nat → Nat} {c : UInt8} {P R : List UInt8} {V : Nat → List UInt8} (h : V (vn c) = []) : giv L (c :: P) R V = giv L P (R.drop (L (vn c))) (updV V (vn c) (R.take (L (vn c)))) := by rw [giv, if_pos (.inl h)]
theorem giv_old {L : Nat → Nat} {c : UInt8} {P R : List UInt8} {V : Nat → List UInt8} (h : V (vn c) = R.take (L (vn c))) : giv L (c :: P) R V = giv L P (R.drop (L (vn c))) V := by
  rw [giv, if_pos (.inr h)]
  congr 1
  funext u
  by_cases e : u = vn c
  · rw [e, updV_at, h]
  · rw [updV_ne _ _ e]
theorem letters_in {w : World} {g : Nat} {X : List UInt8} (h : LettersAt w g X) {o n : Nat} (hn : o + n ≤ X.length) : Lib.BytesIn w (some ⟨g, o, none⟩) n (((X.drop o).take n).map fun c => (c.toNat : Int)) := by
  intro h0
  refine ⟨g, o, rfl, fun i hi => ?_⟩
  rw [h.2 (o + i) (by omega)]
  congr 2
  rw [List.getD_eq_getElem?_getD, List.getElem?_map, List.getElem?_take, if_pos hi, List.getElem?_drop, List.getElem?_eq_getElem (by omega)]
  rfl
theorem bytesOf_map (l : List UInt8) : Lib.bytesOf (l.map fun c => (c.toNat : Int)) = l := by
  unfold Lib.bytesOf
  rw [List.map_map]
  conv => rhs; rw [← List.map_id l]
  apply List.map_congr_left
  intro c _
  simp
/-- All variables of these have values. -/
def Told (O : Nat → Option (Nat × Nat)) (Q : List UInt8) : Prop := ∀ c ∈ Q, (O (vn c)).isSome = true
theorem Told.snoc {O : Nat → Option (Nat × Nat)} {P : List UInt8} {i : Nat} {c : UInt8} {t : List UInt8} (h : Told O (P.take i)) (hd : P.drop i = c :: t) (hc : (O (vn c)).isSome = true) : Told O (P.take (i + 1)) := by
  intro d hd2
  have e : P.take (i + 1) = P.take i ++ [c] := by
    have h1 : P[i]? = some c := by
      have := congrArg (fun l => l[0]?) hd
      simpa using this
    rw [List.take_add_one, h1]; rfl
  rw [e, List.mem_append, List.mem_singleton] at hd2
  rcases hd2 with q | rfl
  · exact h d q
  · exact hc
theorem Told.upd {O : Nat → Option (Nat × Nat)} {Q : List UInt8} (h : Told O Q) (v : Nat) (x : Nat × Nat) : Told (updV O v (some x)) Q := by
  intro c hc
  by_cases e : vn c = v
  · rw [e, updV_at]; rfl
  · rw [updV_ne _ _ e]; exact h c hc
theorem heap_drewN' (w : World) (n : Nat) : (w.drewN n).heap = w.heap := rfl
theorem LettersAt.drewN {w : World} {g : Nat} {X : List UInt8} (h : LettersAt w g X) (n : Nat) : LettersAt (w.drewN n) g X := h.past ((Below.refl _ w).drewN n)
theorem equal_parts {w : World} {g : Nat} {X : List UInt8} (h : LettersAt w g X) {o n o' n' c c' : Nat} (h1 : o + n ≤ X.length) (h2 : o' + n' ≤ X.length) :
    Calls Tryd.prog 205 #[.slice (some ⟨g, o, none⟩) n c, .slice (some ⟨g, o', none⟩) n' c'] w fun e w' => e = .returned (.bool ((X.drop o).take n == (X.drop o').take n')) ∧ w' = w := by
  refine (Tryd.bytes_Equal_all (some ⟨g, o, none⟩) (some ⟨g, o', none⟩) n c n' c' _ _ w (by simp; omega) (by simp; omega) (letters_in h h1) (letters_in h h2)).mono ?_
  rintro e w' ⟨rfl, rfl⟩
  rw [bytesOf_map, bytesOf_map]
  exact ⟨rfl, rfl⟩

set_option maxRecDepth 100000 in
set_option maxHeartbeats 4000000 in
theorem tryValues_any (p : ByteArray) (hp : IsP p) (g cX : Nat) (X : List UInt8) (place : Nat) (lens : List Nat) (b cap : Nat) (w : World) (hX : LettersAt w g X) (hXl : X.length ≤ 60) (hcX : X.length ≤ cX)
    (hl : lens.length = (vsOf (bl p)).length) (hb : b < w.heap.size) (hcell : ∀ j (h : j < lens.length), w.cell? ⟨b, j, none⟩ = some (.int .i64 ((lens[j]'h : Nat) : Int))) (hcap : lens.length ≤ cap) (hpos : ∀ n ∈ lens, 1 ≤ n)
    (htot : place + totL (lnF (vsOf (bl p)) lens) (bl p) ≤ X.length) :
    Calls Tryd.prog 193 #[srchV p (vsT (bl p)) g X.length cX, .int .i64 (place : Int), .slice (some ⟨b, 0, none⟩) lens.length cap] w fun e w' =>
      FitEnd place g X (vsOf (bl p)) w.heap.size (giv (lnF (vsOf (bl p)) lens) (bl p) (X.drop place) (fun _ => [])) e w' ∧ Below w.heap.size w w' := by
  have hP := hp.list
  have hp8 := hp.2.1
  have hk3 := vsOf_len (bl p)
  obtain ⟨L, hL⟩ : ∃ L, lnF (vsOf (bl p)) lens = L := ⟨_, rfl⟩
  obtain ⟨vs, hvs⟩ : ∃ vs, vsOf (bl p) = vs := ⟨_, rfl⟩
  obtain ⟨k, hk⟩ : ∃ k, lens.length = k := ⟨_, rfl⟩
  rw [hL] at htot ⊢
  have HL := Lib.hid hL
  have HVS := Lib.hid hvs
  have HK := Lib.hid hk
  have HP := Lib.hid hP
  have HX := Lib.hid hX
  have HC := Lib.hid hcell
  have HPOS := Lib.hid hpos
  have hvl : vs.length = k := by rw [← hvs, ← hl, hk]
  have HVL := Lib.hid hvl
  have hk3' : k ≤ 3 := by rw [← hk, hl]; exact hk3
  have hkc : k ≤ cap := by rw [← hk]; exact hcap
  have hplace : place ≤ 60 := by omega
  have hmk := fun W => make_F k (by omega) W
  rw [hk]
  clear hP hL hk hX hcell hpos hvl hk3 hcap hl hvs
  have HT := Lib.hid htot
  clear htot
  go_enter Tryd.func193, Tryd.ntmps193
  go_wp2
  go_loopw [7] (fun s7 wr => ∃ (i : Nat) (O : Nat → Option (Nat × Nat)), i ≤ p.size ∧ s7 = .int .i64 ((place + totL L ((bl p).take i) : Nat) : Int) ∧ wr.heap[w.heap.size + 2]? = some (.stringIter p i) ∧
      TbF wr w.heap.size (w.heap.size + 1) 40 k (fun j => valV g (O (vs.getD j 0))) ∧ InX X O ∧ Told O ((bl p).take i) ∧ giv L (bl p) (X.drop place) (fun _ => []) = giv L ((bl p).drop i) (X.drop (place + totL L ((bl p).take i))) (fun v => valX X (O v)) ∧
      BoxS wr w.heap.size p (vsT (bl p)) (.slice (some ⟨g, 0, none⟩) X.length cX) ∧ Below w.heap.size w wr ∧ w.heap.size + 2 < wr.heap.size)
    (fun _ wr => p.size - wr.iterPos (w.heap.size + 2))
  case atStart =>
    refine ⟨0, fun _ => none, Nat.zero_le _, by simp [totL], ?_, ?_, InX.none X, fun c hc => (by simp at hc), by simp [totL, valX], ?_, ?_, ?_⟩
    · have := World.iter_heap ((w.alloc (.cells #[.string p, .string (vsT (bl p)), .slice (some ⟨g, 0, none⟩) X.length cX] 142)).alloc (.cells (madeCells #[.slice none 0 0] k) 40)) p 0
      simpa using this
    · have h := made_F k (by omega) (w.alloc (.cells #[.string p, .string (vsT (bl p)), .slice (some ⟨g, 0, none⟩) X.length cX] 142)) w.heap.size (by simp)
      rw [World.size_alloc] at h
      have h2 : TbF _ w.heap.size (w.heap.size + 1) 40 k (fun j => valV g ((fun _ => Option.none : Nat → Option (Nat × Nat)) (vs.getD j 0))) := h
      exact own_below h2 (Below.new _ _)
    · exact (BoxS.new w _ _ _).past ((((Below.refl (w.heap.size + 1) _).alloc (by simp) _).alloc (by simp) _)) (by omega)
    · exact ((Below.new w _).alloc (by simp) _).alloc (by simp; omega) _
    · simp [World.iter]
  case round =>
    obtain ⟨i, O, hi, rfl, hit, hT, hIn, hTo, hg, hbx, hB, hsz⟩ := hrel
    by_cases hp' : i < p.size
    · have hcm : p[i]'hp' ∈ bl p := List.getElem_mem (l := bl p) (n := i) hp'
      obtain ⟨hlo, hhi⟩ := HP.out _ hcm
      have hnx : ∀ ty, (Instr.next (.pointer (some ⟨w.heap.size + 2, 0, none⟩)) true ty).run Tryd.prog wr = _ := fun ty => Lib.run_next_ascii_at wr (w.heap.size + 2) p i ty hit hp' (by omega)
      have hdr : (bl p).drop i = p[i]'hp' :: (bl p).drop (i + 1) := List.drop_eq_getElem_cons (l := bl p) (i := i) hp'
      have htk := totL_take L (bl p) i hp'
      have hmono := totL_mono L (bl p) (i + 1)
      have hjl := vix_lt HP.out hcm
      have hjg := vix_get HP.out hcm
      rw [HVS.out] at hjl hjg
      have CR := fun W => indexRune_vs HP.out hcm W
      rw [HVS.out] at CR
      have e0 : (bl p)[i]'hp' = p[i]'hp' := rfl
      rw [e0] at htk
      obtain ⟨v, hv⟩ : ∃ v, vn (p[i]'hp') = v := ⟨_, rfl⟩
      rw [hv] at hjl hjg CR htk
      obtain ⟨j, hj⟩ : ∃ j, vs.idxOf v = j := ⟨_, rfl⟩
      rw [hj] at hjl hjg CR
      have hjk : j < k := by rw [← HVL.out]; exact hjl
      have hjn : j < lens.length := by rw [HK.out]; exact hjk
      obtain ⟨n, hn⟩ : ∃ n, lens[j]'hjn = n := ⟨_, rfl⟩
      have hn1 : 1 ≤ n := by rw [← hn]; exact HPOS.out _ (List.getElem_mem _)
      have hLv : L v = n := by
        rw [← HL.out, HVS.out]
        unfold lnF
        rw [hj, List.getD_eq_getElem?_getD, List.getElem?_eq_getElem hjn, hn]; rfl
      rw [hLv] at htk
      have hTT := HT.out
      obtain ⟨A, hA⟩ : ∃ A, place + totL L ((bl p).take i) = A := ⟨_, rfl⟩
      rw [hA] at hg
      have hA2 : place + totL L ((bl p).take (i + 1)) = A + n := by omega
      have hAn : A + n ≤ X.length := by omega
      rw [hA]
      rw [hdr] at hg
      have cb : w.cell? ⟨b, j, none⟩ = some (.int .i64 (n : Int)) := by rw [HC.out j hjn, hn]
      obtain ⟨wi, hwi⟩ : ∃ wi, wr.iterAt (w.heap.size + 2) p (i + 1) = wi := ⟨_, rfl⟩
      have hit2 := Lib.iterAt_heap wr (w.heap.size + 2) p i (i + 1) hit
      have hB2 := Lib.below_iterAt hB (show w.heap.size ≤ w.heap.size + 2 by omega) p (i + 1)
      have hBi := Lib.below_iterAt (Below.refl (w.heap.size + 2) wr) (Nat.le_refl _) p (i + 1)
      have hT2 : TbF (wr.iterAt (w.heap.size + 2) p (i + 1)) w.heap.size (w.heap.size + 1) 40 k (fun j => valV g (O (vs.getD j 0))) := ownsRow_iterAt' hT hit (i + 1)
      have hbx2 := hbx.past hBi (by omega)
      have hsz2 : w.heap.size + 2 < (wr.iterAt (w.heap.size + 2) p (i + 1)).heap.size := by rw [Lib.iterAt_size]; exact hsz
      rw [hwi] at hit2 hB2 hT2 hbx2 hsz2
      rw [hwi] at hnx
      have hX2 := HX.out.past hB2
      have cb2 : wi.cell? ⟨b, j, none⟩ = some (.int .i64 (n : Int)) := by rw [(bcell hB2).1 b j hb]; exact cb
      have x0 := hbx2.c0
      have x1 := hbx2.c1
      have x2 := hbx2.c2
      have tj := hT2.at hjk
      have fj : wi.frozen? ⟨w.heap.size + 1, j, none⟩ = false := hT2.frozenAt j
      simp only [hjg] at tj
      have hA60 : A ≤ 60 := by omega
      have hn60 : n ≤ 60 := by omega
      have HIT := Lib.hid hit
      have HIT2 := Lib.hid hit2
      have HG := Lib.hid hg
      have HA2 := Lib.hid hA2
      have HV := Lib.hid hv
      have HJ := Lib.hid hj
      have HLV := Lib.hid hLv
      have HJG := Lib.hid hjg
      have HCR := Lib.hid CR
      have HWI := Lib.hid hwi
      have HT2 := Lib.hid hT2
      have HX2 := Lib.hid hX2
      have HIN := Lib.hid hIn
      have HTO := Lib.hid hTo
      have HDR := Lib.hid hdr
      have HBX := Lib.hid hbx2
      clear hit hit2 hg hA hA2 hv hj hLv hjg CR hwi hT hT2 hX2 hIn hTo hbx hbx2 hdr htk hmono hn cb hBi e0 hTT hcm
      generalize hr : ((p[i]'hp').toNat : Int) = rr at *
      have HR := Lib.hid hr
      clear hr
      have hjk2 : (j : Int) < (k : Int) := by omega
      have hj0 : (0 : Int) ≤ (j : Int) := by omega
      have hs3 := fun W => slice_lhm W g cX X.length A n (by omega) (by omega)
      have hs2 := fun W => slice_lh W g cX X.length A n (by omega) (by omega)
      cases hO : O v with
      | none =>
        rw [hO] at tj
        have tj2 : wi.cell? ⟨w.heap.size + 1, j, none⟩ = some (.slice none 0 0) := tj
        have hnil := fun W => eq_nil W none 0 0
        have HO := Lib.hid hO
        clear tj hO
        go_wp2_with (first | (go_at_call 199; (with_reducible refine (HCR.out _).mono ?_); rintro e w1 ⟨rfl, rfl⟩))
        have hgn : giv L (bl p) (X.drop place) (fun _ => []) = giv L ((bl p).drop (i + 1)) (X.drop (A + n)) (fun u => valX X (updV O v (some (A, n)) u)) := by
          rw [valX_upd, HG.out, giv_new (by rw [HV.out]; show valX X (O v) = []; rw [HO.out]; rfl), HV.out, HLV.out, List.drop_drop]
        have HB3 := Lib.hid (hB2.setCell (p := ⟨w.heap.size + 1, j, none⟩) (by show w.heap.size ≤ w.heap.size + 1; omega) (.slice (some ⟨g, A, none⟩) n n))
        have HT3 := Lib.hid ((HT2.out.set j (.slice (some ⟨g, A, none⟩) n n)).congr (g := fun q => valV g (updV O v (some (A, n)) (vs.getD q 0))) (fun q hq => by
          show (if q = j then _ else _) = _
          by_cases e : q = j
          · rw [if_pos e, e, HJG.out, updV_at]; rfl
          · rw [if_neg e, updV_ne]
            intro e2
            apply e
            have h1 : q < vs.length := by rw [HVL.out]; exact hq
            have h2 : vs.getD q 0 = vs[q]'h1 := by rw [List.getD_eq_getElem?_getD, List.getElem?_eq_getElem h1]; rfl
            rw [h2] at e2
            rw [← HJ.out, ← e2]
            have hnd := vsOf_nodup (bl p)
            rw [HVS.out] at hnd
            exact (hnd.idxOf_getElem q h1).symm))
        have hbs : Below (w.heap.size + 1) wi (wi.setCell ⟨w.heap.size + 1, j, none⟩ (.slice (some ⟨g, A, none⟩) n n)) := (Below.refl _ _).setCell (p := ⟨w.heap.size + 1, j, none⟩) (Nat.le_refl _) _
        have hbx3 := HBX.out.past hbs (by omega)
        have HX3 := Lib.hid (HX.out.past HB3.out)
        have hsz3 : w.heap.size + 2 < (wi.setCell ⟨w.heap.size + 1, j, none⟩ (.slice (some ⟨g, A, none⟩) n n)).heap.size := by simpa using hsz2
        have hit3 : (wi.setCell ⟨w.heap.size + 1, j, none⟩ (.slice (some ⟨g, A, none⟩) n n)).heap[w.heap.size + 2]? = some (.stringIter p (i + 1)) := by
          rw [Below.heap_setCell _ _ _ _ (by show w.heap.size + 2 ≠ w.heap.size + 1; omega)]; exact HIT2.out
        obtain ⟨ws, hws⟩ : ∃ ws, wi.setCell ⟨w.heap.size + 1, j, none⟩ (.slice (some ⟨g, A, none⟩) n n) = ws := ⟨_, rfl⟩
        have HB4 := HB3.out
        have HT4 := HT3.out
        have HX4 := HX3.out
        rw [hws] at HB4 HT4 HX4 hbx3 hsz3 hit3
        have y2 := hbx3.c2
        have yj := HT4.at hjk
        simp only [HJG.out, updV_at, valV] at yj
        have HWS := Lib.hid hws
        have HBX3 := Lib.hid hbx3
        have HX5 := Lib.hid HX4
        have HT5 := Lib.hid HT4
        have HIT3 := Lib.hid hit3
        have HGN := Lib.hid hgn
        have HEQ := Lib.hid (fun (W : World) (hW : LettersAt W g X) => by have h := equal_parts hW (c := n) (c' := cX - A) hAn hAn; rw [beq_self_eq_true] at h; exact h)
        clear HB3 HT3 HX3 hws hbx3 HX4 HT4 hit3 hgn hbs
        rw [HWS.out]
        go_quiet ((go_at_call 205; exact Calls.quiet_of_same (HEQ.out _ (HX5.out.drewN _))))
        go_wp2
        go_roundw
        case rel =>
          refine ⟨i + 1, updV O v (some (A, n)), by omega, by rw [HA2.out]; go_num, HIT3.out, HT5.out, HIN.out.upd hn1 hAn, (HTO.out.upd v _).snoc HDR.out (by rw [HV.out, updV_at]; rfl), by rw [HA2.out]; exact HGN.out, HBX3.out.past ((Below.refl (w.heap.size + 1) _).drewN _) (by omega), HB4.drewN _, hsz3⟩
        case measure => simp only [World.iterPos, heap_drewN', HIT3.out, HIT.out]; omega
      | some om =>
        obtain ⟨o, m⟩ := om
        rw [hO] at tj
        have tj2 : wi.cell? ⟨w.heap.size + 1, j, none⟩ = some (.slice (some ⟨g, o, none⟩) m m) := tj
        have hom := HIN.out v o m hO
        have hnil := fun W => eq_nil W (some ⟨g, o, none⟩) m m
        have HO := Lib.hid hO
        clear tj hO
        cases hq : ((X.drop o).take m == (X.drop A).take n) with
        | false =>
          have HEQ := Lib.hid (fun (W : World) (hW : LettersAt W g X) => by have h := equal_parts hW (c := m) (c' := cX - A) (show o + m ≤ X.length from hom.2) hAn; rw [hq] at h; exact h)
          have hgn : giv L (bl p) (X.drop place) (fun _ => []) = none := by
            rw [HG.out]
            apply giv_none
            rw [HV.out, HLV.out]
            show ¬ (valX X (O v) = [] ∨ valX X (O v) = _)
            rintro (e | e)
            · exact valX_ne HIN.out HO.out e
            · rw [HO.out] at e
              have e' : (X.drop o).take m = (X.drop A).take n := e
              rw [e', beq_self_eq_true] at hq; cases hq
          have HGN := Lib.hid hgn
          clear hq hgn
          go_wp2_with (first | (go_at_call 199; (with_reducible refine (HCR.out _).mono ?_); rintro e w1 ⟨rfl, rfl⟩))
          go_quiet ((go_at_call 205; exact Calls.quiet_of_same (HEQ.out _ (HX2.out.drewN _))))
          go_wp2
          refine bodyPost_ret (results_none rfl _ _ _) rfl ?_
          refine ⟨?_, hB2.drewN _⟩
          rw [HGN.out]; rfl
        | true =>
          have hq2 : (X.drop o).take m = (X.drop A).take n := by simpa using hq
          have HEQ := Lib.hid (fun (W : World) (hW : LettersAt W g X) => by have h := equal_parts hW (c := m) (c' := cX - A) (show o + m ≤ X.length from hom.2) hAn; rw [hq] at h; exact h)
          have hgn : giv L (bl p) (X.drop place) (fun _ => []) = giv L ((bl p).drop (i + 1)) (X.drop (A + n)) (fun u => valX X (O u)) := by
            rw [HG.out, giv_old (by rw [HV.out, HLV.out]; show valX X (O v) = _; rw [HO.out]; exact hq2), HV.out, HLV.out, List.drop_drop]
          have HGN := Lib.hid hgn
          clear hq hgn hq2
          go_wp2_with (first | (go_at_call 199; (with_reducible refine (HCR.out _).mono ?_); rintro e w1 ⟨rfl, rfl⟩))
          go_quiet ((go_at_call 205; exact Calls.quiet_of_same (HEQ.out _ (HX2.out.drewN _))))
          go_wp2
          go_roundw
          case rel =>
            refine ⟨i + 1, O, by omega, by rw [HA2.out]; go_num, HIT2.out, HT2.out, HIN.out, HTO.out.snoc HDR.out (by rw [HV.out, HO.out]; rfl), by rw [HA2.out]; exact HGN.out, HBX.out.past ((Below.refl (w.heap.size + 1) _).drewN _) (by omega), hB2.drewN _, hsz2⟩
          case measure => simp only [World.iterPos, heap_drewN', HIT2.out, HIT.out]; omega
    · have hke : i = p.size := by omega
      subst hke
      have hnx : ∀ ty, (Instr.next (.pointer (some ⟨w.heap.size + 2, 0, none⟩)) true ty).run Tryd.prog wr = _ := fun ty => Lib.run_next_end_at wr (w.heap.size + 2) p p.size ty hit hp'
      have hd0 : (bl p).drop p.size = [] := List.drop_of_length_le (by rw [bl_len]; exact Nat.le_refl _)
      have ht0 : (bl p).take p.size = bl p := List.take_of_length_le (by rw [bl_len]; exact Nat.le_refl _)
      rw [hd0, giv] at hg
      rw [ht0] at hTo
      have HG := Lib.hid hg
      have HTO := Lib.hid hTo
      have HT2 := Lib.hid hT
      have HIN := Lib.hid hIn
      have HBX := Lib.hid hbx
      clear hg hTo hT hIn hbx hit hd0 ht0
      go_wp2
      refine ⟨rfl, ?_, hB⟩
      rw [HG.out]
      refine ⟨_, rfl, ?_⟩
      have hmem : ∀ v ∈ vs, ∃ o n, O v = some (o, n) := fun v hv => by
        rw [← HVS.out] at hv
        obtain ⟨c, hc, rfl⟩ := cntV_pos.1 (vsOf_mem.1 hv).2
        obtain ⟨⟨o, n⟩, h⟩ := Option.isSome_iff_exists.1 (HTO.out c hc)
        exact ⟨o, n, h⟩
      rw [HVS.out]
      refine ⟨w.heap.size + 1, fun j => O (vs.getD j 0), by rw [List.length_map, HVL.out], by rw [List.length_map, HVL.out]; exact HT2.out, fun v o n h => HIN.out _ o n h, fun j hj => ?_⟩
      have hj2 : j < vs.length := by rw [List.length_map] at hj; exact hj
      have h2 : vs.getD j 0 = vs[j]'hj2 := by rw [List.getD_eq_getElem?_getD, List.getElem?_eq_getElem hj2]; rfl
      obtain ⟨o, n, hon⟩ := hmem _ (List.getElem_mem hj2)
      rw [List.getElem_map]
      exact ⟨by show valX X (O (vs.getD j 0)) = _; rw [h2], valX_ne HIN.out hon⟩

end Go.Proofs.YtfipbnognjepkaaDoor
