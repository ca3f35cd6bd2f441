/- The edges of the graph of factors: the program. -/
import Derived.Test.YtbhgghajbdlfkabGreatEdgePlain
import Derived.Test.YtbhgghajbdlfkabGreatCx
import Derived.Test.YtbhgghajbdlfkabGreatShelf
import Derived.Test.YtbhgghajbdlfkabGreatRows2
import Derived.Test.YtbhgghajbdlfkabGreatPers
import Derived.Shelf.Slices.Turned
import Derived.Deep.QuietTactic
import Derived.BigQuiet
namespace Go.Proofs.YtbhgghajbdlfkabGreat
set_option linter.unusedVariables false
set_option linter.unusedSimpArgs false
open Go.RowKit Go.Conc

/-- One row of two numbers more: what the walk owes. -/
theorem rows_grownE {W w3 : World} {base : Nat} {v v' : Value} {us : List Value} {L : List (List Int)} {i q : Int} {tmp : Obj}
    (own : W.ownsRow base 36 1 v us.length us) (rows : RowsIn W base us L) (hb : base ≤ W.heap.size)
    (hown' : w3.ownsRow base 36 1 v' (us.length + 1) (us ++ [.slice (some ⟨W.heap.size, 0, none⟩) 2 2]))
    (hgrow : ((W.alloc (.cells #[.int .i64 i, .int .i64 q] 2)).alloc tmp).grownBy w3 v.ownBlock) : OwnR w3 base v' (L ++ [[i, q]]) := by
  have hB : Below W.heap.size W ((W.alloc (.cells #[.int .i64 i, .int .i64 q] 2)).alloc tmp) := (Below.new _ _).alloc (by simp) _
  have r1 := rows.below hB
  have o1 : OwnI (W.alloc (.cells #[.int .i64 i, .int .i64 q] 2)) base (.slice (some ⟨W.heap.size, 0, none⟩) 2 2) [i, q] := own_base (World.ownsRow_lit W #[.int .i64 i, .int .i64 q] 2 (Nat.le_refl _) (by decide) (by simp)) hb
  have o2 := o1.below (Below.new _ tmp)
  have own2 := own_below own hB
  have r2 : RowsIn w3 base us L := r1.other hgrow fun j hj k hk c => own_apart (r1.2.1 j hj) own2 (by decide) hk c
  have o3 : OwnI w3 base (.slice (some ⟨W.heap.size, 0, none⟩) 2 2) [i, q] := own_other o2 hgrow fun k hk c => own_apart o2 own2 (by decide) hk c
  refine ⟨us ++ [.slice (some ⟨W.heap.size, 0, none⟩) 2 2], by rw [List.length_append]; exact hown', r2.snoc o3 (b := W.heap.size) (fun j hj k hk => (rows.lt j hj k hk).2) (fun k hk => ?_)⟩
  have : W.heap.size = k := Option.some.inj hk
  omega

theorem cell_new1E (W : World) (o : Obj) (v : Value) (t : TypeId) : ∀ j u, [v][j]? = some u → ((W.alloc o).alloc (.cells #[v] t)).cell? ((⟨W.heap.size + 1, 0, none⟩ : Addr).add j) = some u := by
  have := cell_new (W.alloc o) v t
  rwa [World.size_alloc] at this

theorem OwnR.setChan {w : World} {B : Nat} {v : Value} {L : List (List Int)} (h : OwnR w B v L) {c : Nat} (hc : c < B) (cap : Nat) (buf : Array Value) (cl : Bool) (s r : Nat) (tm : Bool) : OwnR (w.setChan c cap buf cl s r tm) B v L := by
  obtain ⟨us, h1, h2⟩ := h
  refine ⟨us, own_setChan h1 (fun g e => by have := (h1.lt g e).1; omega) _ _ _ _ _ _, h2.1, fun j hj => ?_, h2.2.2⟩
  have h3 := h2.2.1 j hj
  exact own_setChan h3 (fun g e => by have := (OwnI.lt h3 g e).1; omega) _ _ _ _ _ _
theorem slicesIndexS (B : Nat) (v : Value) (L : List ByteArray) (u : ByteArray) (w : World) (h : OwnS w B v L) (hl : L.length ≤ 100) :
    Calls Tryz.prog 77 #[v, .string u] w fun e w' => e = .returned (.int .i64 (Lib.idxOfS L u)) ∧ w' = w := by
  by_cases h0 : L = []
  · subst h0
    obtain ⟨a1, c1, rfl⟩ := h.empty
    exact Tryz.slices_Index_string_empty a1 c1 u w
  · have hn : 0 < L.length := List.length_pos_iff.2 h0
    obtain ⟨g1, c1, rfl, _, _, _, _, k1, _⟩ := h.row hn
    have := Tryz.slices_Index_string g1 0 L.length c1 L u w (Nat.le_refl _) (by omega) (fun j hj => by
      rw [Nat.zero_add, k1 j hj, List.getD_eq_getElem?_getD, List.getElem?_eq_getElem hj]; rfl)
    rw [List.take_length] at this
    exact this

set_option maxRecDepth 100000 in
set_option maxHeartbeats 2000000 in
theorem impl_FactorEdges_ok (x : ByteArray) (m : Nat) (w : World) (h : IsW x) (hm : m ≤ 60) (sx : x.size ≤ maxLen) :
    Calls Tryz.prog 14 #[.string x, .int .i64 (m : Int)] w (RetR (edgesOf x m) 0 w) := by
  obtain ⟨i0, hi, hz0, hz1, hz2⟩ := info_parts infoSI
  have hx := h.size
  have HP := Lib.hid fun w => impl_FactorsOf x (m : Int) w sx (WalkArith.wf_i64 (by omega))
  rw [factorsR_ok h hm] at HP
  have HO := Lib.hid fun w => factorsOver_any x ((m : Int) + 1) w sx (WalkArith.wf_i64 (by omega))
  have hL1 : (factorsR x ((m : Int) + 1)).1 = facs x (m + 1) := by
    by_cases hq : m = 60
    · subst hq
      rw [factorsR_out h (by omega), facs_none (by omega)]
    · have := factorsR_ok h (show m + 1 ≤ 60 by omega)
      rw [show ((m : Int) + 1) = ((m + 1 : Nat) : Int) by omega, this]
      rfl
  rw [hL1] at HO
  have HSZ := Lib.hid (facs_size (x := x) (m := m + 1))
  have lP : (facs x m).length ≤ 61 := by have := facs_len x m; omega
  have lE : (facs x (m + 1)).length ≤ 61 := by have := facs_len x (m + 1); omega
  change Hid (∀ w, Calls _ _ _ w (RetS (facs x m) 0 w)) at HP
  have HR : Hid (edgesOf x m = (facs x (m + 1)).map (edgeRow (facs x m) m)) := Lib.hid rfl
  generalize edgesOf x m = R at *
  generalize facs x (m + 1) = FF at *
  generalize facs x m = L at *
  have H := Lib.hid h
  clear h hL1
  go_enter Tryz.func14, Tryz.ntmps14
  go_wp2_with (first | (go_at_call 20; refine (HP.out _).mono ?_; rintro e w1 ⟨v1, rfl, o1, b1⟩) | (go_at_call 76; refine (HO.out _).mono ?_; rintro e w2 ⟨c, rfl, hc1, hc2, ⟨s2, hch⟩, b2⟩))
  have HV := Lib.hid fun k h => (OwnS.lt o1 k h).2
  have o1 := OwnS.below o1 b2
  have B2 := b1.then b2
  have hz1' := b1.size
  have hz2' := b2.size
  go_loopg [8] FF.length (fun gk v wr => ∃ k : Nat, k + gk = FF.length ∧ (∃ s r, ChanAt wr c FF.length (FF.drop k) true s r) ∧ OwnR wr w2.heap.size v ((FF.take k).map (edgeRow L m)) ∧ OwnS wr w.heap.size v1 L ∧ Below w1.heap.size w1 wr ∧ w2.heap.size ≤ wr.heap.size)
  case atStart => exact ⟨0, by omega, ⟨_, _, hch⟩, OwnR.nil _ _, o1, b2, Nat.le_refl _⟩
  case round =>
    clear hch o1
    obtain ⟨k, hk, ⟨s, r, hch⟩, hown, hoL, hB, hzr⟩ := hrel
    by_cases hp : k < FF.length
    · obtain ⟨gq, rfl⟩ : ∃ gq, gk = gq + 1 := ⟨gk - 1, by omega⟩
      have HK := Lib.hid hk
      have hd := List.drop_eq_getElem_cons hp
      rw [hd] at hch
      have hz := HSZ.out _ (List.getElem_mem hp)
      have HT : Hid (FF.take (k + 1) = FF.take k ++ [FF[k]'hp]) := Lib.hid (List.take_succ_eq_append_getElem hp)
      have hlk : (FF.take k).length = k := by rw [List.length_take]; omega
      have HLK := Lib.hid hlk
      clear hk hd hlk
      generalize FF[k]'hp = z at *
      generalize FF.take k = seen at *
      go_upto_region 6 with fail
      refine opsTo_region ?_
      show OpsTo _ _ _ [0, 1] _ _
      refine opsTo_recv (c := c) (z := .string ⟨#[]⟩) (w₁ := wr) true rfl rfl (by simp [go_sem, Act.eval, rcase]) hch (by rw [bufS_size]; exact Nat.succ_pos _) ?_
      have hch2 := chanAt_recv hch
      have hown2 := hown.setChan (show c < w2.heap.size by omega) FF.length ((bufS (z :: FF.drop (k + 1))).extract 1 (bufS (z :: FF.drop (k + 1))).size) true s (r + 1) false
      have hoL2 : OwnS (wr.setChan c FF.length ((bufS (z :: FF.drop (k + 1))).extract 1 (bufS (z :: FF.drop (k + 1))).size) true s (r + 1) false) w.heap.size v1 L := own_setChan hoL (fun g e => by have := HV.out g e; omega) _ _ _ _ _ _
      have hB2 := below_setChan hB (show w1.heap.size ≤ c by omega) FF.length ((bufS (z :: FF.drop (k + 1))).extract 1 (bufS (z :: FF.drop (k + 1))).size) true s (r + 1) false
      have hzn : w2.heap.size ≤ (wr.setChan c FF.length ((bufS (z :: FF.drop (k + 1))).extract 1 (bufS (z :: FF.drop (k + 1))).size) true s (r + 1) false).heap.size := by rw [size_setChan]; exact hzr
      rw [bufS_get]
      generalize wr.setChan c FF.length ((bufS (z :: FF.drop (k + 1))).extract 1 (bufS (z :: FF.drop (k + 1))).size) true s (r + 1) false = wn at *
      refine opsTo_value (v := .bool true) (w' := wn) rfl rfl (by simp [go_sem, Act.eval, Act.put, got]) ?_
      refine opsTo_nil ?_
      simp only [Act.put, got, ↓reduceIte, List.setIfInBounds_toArray, List.set_cons_succ, List.set_cons_zero]
      have CI : Hid (∀ W u, OwnS W w.heap.size v1 L → Calls Tryz.prog 77 #[v1, .string u] W fun e w' => e = .returned (.int .i64 (Lib.idxOfS L u)) ∧ w' = W) := Lib.hid fun W u hW => slicesIndexS _ v1 L u W hW (by omega)
      have C1 := Lib.hid fun q => CI.out (wn.drewN q) (z.extract 0 m) hoL2
      have C2 := Lib.hid fun q => CI.out (wn.drewN q) (z.extract 1 z.size) hoL2
      have hs1 := fun W => slice_to z (m : Int) m rfl (by omega) W
      have hs2 := fun W => slice_from z 1 1 rfl (by omega) W
      have hr1 := idx_range L (z.extract 0 m)
      have hr2 := idx_range L (z.extract 1 z.size)
      have HER : Hid (edgeRow L m z = [Lib.idxOfS L (z.extract 0 m), Lib.idxOfS L (z.extract 1 z.size)]) := Lib.hid (by unfold edgeRow; rw [← hz])
      clear hown hoL hB hch hz hzr
      generalize Lib.idxOfS L (z.extract 0 m) = ia at *
      generalize Lib.idxOfS L (z.extract 1 z.size) = ib at *
      generalize z.extract 0 m = za at *
      generalize z.extract 1 z.size = zb at *
      go_wp2
      go_quiet (first | (go_at_call 77; with_reducible exact Calls.quiet_of_same (C1.out _)) | (go_at_call 77; with_reducible exact Calls.quiet_of_same (C2.out _)))
      have hown3 : OwnR (wn.drewN nq) w2.heap.size u8 (seen.map (edgeRow L m)) := hown2
      have hoL3 : OwnS (wn.drewN nq) w.heap.size v1 L := hoL2
      have hch3 : ChanAt (wn.drewN nq) c FF.length (FF.drop (k + 1)) true s (r + 1) := hch2
      have hB3 : Below w1.heap.size w1 (wn.drewN nq) := hB2.drewN nq
      have hz3 : w2.heap.size ≤ (wn.drewN nq).heap.size := hzn
      generalize wn.drewN nq = wq at *
      obtain ⟨us, own, rows⟩ := hown3
      have hul := rows.1
      rw [List.length_map] at hul
      have hu61 : us.length ≤ 61 := by have := HLK.out; omega
      have HUL := Lib.hid hul
      have hcl : c < wq.heap.size := (Array.getElem?_eq_some_iff.1 hch3).1
      have hvc : ∀ k, v1.ownBlock = some k → k < w2.heap.size := fun k h => by have := HV.out k h; omega
      have HVC := Lib.hid hvc
      clear hown2 hoL2 hch2 hB2 hzn hul hvc
      have ownA := World.ownsRow.alloc (World.ownsRow.alloc own (.cells #[.int .i64 ia, .int .i64 ib] 2)) (.cells #[.slice (some ⟨wq.heap.size, 0, none⟩) 2 2] 36)
      go_wp2_with (at_builtin; refine wpList_append_own _ rfl _ _ 29 rfl w2.heap.size 36 i0 (.slice none 0 0) 1 24 Tryz.underlying29 hi hz0 hz1 hz2 rfl (by decide) _ _ _ rfl ownA ⟨_, 0, none⟩ 1 1 [.slice (some ⟨wq.heap.size, 0, none⟩) 2 2] rfl rfl (cell_new1E _ _ _ _) (by intro u hu; simp at hu; subst hu; rfl) (by unfold maxLen; omega) (by omega) (by simp; omega) ?_; intro v' w3 hown' hgrow _)
      have hO := rows_grownE own rows hz3 hown' hgrow
      have hBl := (hB3.alloc (by omega) (.cells #[.int .i64 ia, .int .i64 ib] 2)).alloc (by simp; omega) (.cells #[.slice (some ⟨wq.heap.size, 0, none⟩) 2 2] 36)
      have hB4 : Below w1.heap.size w1 w3 := hBl.grown hgrow (by simp; omega) (fun q hq => by have := (own.lt q hq).1; omega)
      have hch4 : ChanAt w3 c FF.length (FF.drop (k + 1)) true s (r + 1) := by
        unfold ChanAt
        rw [hgrow.block c (by simp; omega) (fun e => by have := (own.lt c e.symm).1; omega)]
        have e1 := (Below.new (wq.alloc (.cells #[.int .i64 ia, .int .i64 ib] 2)) (.cells #[.slice (some ⟨wq.heap.size, 0, none⟩) 2 2] 36)).block c (by simp; omega)
        have e2 := (Below.new wq (.cells #[.int .i64 ia, .int .i64 ib] 2)).block c hcl
        exact (e1.trans e2).trans hch3
      have hoL4 : OwnS w3 w.heap.size v1 L := own_other (own_below (own_below hoL3 (Below.new _ _)) (Below.new _ _)) hgrow (fun q hq e => by have h1 := (own.lt q e).1; have h2 := HVC.out q hq; omega)
      have hz4 : w2.heap.size ≤ w3.heap.size := by have := hgrow.size; simp at this; omega
      clear hown' hgrow own rows ownA hBl
      go_wp2
      go_roundg gq
      case measure => omega
      case rel =>
        refine ⟨k + 1, by have := HK.out; omega, ⟨_, _, hch4⟩, ?_, hoL4, hB4, hz4⟩
        rw [HT.out, List.map_append, List.map_cons, List.map_nil, HER.out]
        exact hO
    · obtain rfl : gk = 0 := by omega
      obtain rfl : k = FF.length := by omega
      rw [List.drop_length] at hch
      rw [List.take_length] at hown
      go_upto_region 6 with fail
      refine opsTo_region ?_
      show OpsTo _ _ _ [0, 1] _ _
      refine opsTo_shut (c := c) (z := .string ⟨#[]⟩) (w₁ := wr) true rfl rfl (by simp [go_sem, Act.eval, rcase]) hch ?_
      refine opsTo_value (v := .bool false) (w' := wr) rfl rfl (by simp [go_sem, Act.eval, Act.put, got]) ?_
      refine opsTo_nil ?_
      simp only [Act.put, got, ↓reduceIte, List.setIfInBounds_toArray, List.set_cons_succ, List.set_cons_zero]
      have HOW := Lib.hid hown
      clear hch hown
      go_wp2
      go_ret2
      refine ⟨_, rfl, ?_, b1.then hB⟩
      rw [HR.out]
      exact OwnR.base HOW.out (by omega)

set_option maxRecDepth 100000 in
theorem impl_FactorEdges (x : ByteArray) (m : Int) (w : World) (sx : x.size ≤ maxLen) (wm : (Lit.int .i64 m).wf = true) :
    Calls Tryz.prog 14 #[.string x, .int .i64 m] w (RetR (feR x m).1 (feR x m).2 w) := by
  have HP := Lib.hid fun w => impl_FactorsOf x m w sx wm
  by_cases h : IsW x
  · by_cases ho : m < 0 ∨ 60 < m
    · rw [feR_out h ho]
      rw [factorsR_out h ho] at HP
      have H := Lib.hid h
      clear h ho
      go_enter Tryz.func14, Tryz.ntmps14
      go_wp2_with (go_at_call 20; refine (HP.out _).mono ?_; rintro e w1 ⟨v1, rfl, o1, b1⟩)
      go_ret2
      exact ⟨_, rfl, OwnR.nil _ _, b1⟩
    · obtain ⟨n, rfl⟩ := Int.eq_ofNat_of_zero_le (show 0 ≤ m by omega)
      rw [feR_ok h (by omega)]
      exact impl_FactorEdges_ok x n w h (by omega) sx
  · rw [feR_bad h]
    rw [factorsR_bad h] at HP
    have H := Lib.hid h
    clear h
    go_enter Tryz.func14, Tryz.ntmps14
    go_wp2_with (go_at_call 20; refine (HP.out _).mono ?_; rintro e w1 ⟨v1, rfl, o1, b1⟩)
    go_ret2
    exact ⟨_, rfl, OwnR.nil _ _, b1⟩

end Go.Proofs.YtbhgghajbdlfkabGreat
