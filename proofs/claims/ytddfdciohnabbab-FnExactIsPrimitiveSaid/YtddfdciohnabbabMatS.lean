/- The matrix of a morphism: the model. -/
import Derived.Test.YtddfdciohnabbabVec
import Derived.Test.YtddfdciohnabbabRows2
import Derived.Test.YtddfdciohnabbabImgS
import Derived.BigQuiet
import Derived.StillTailTactics
namespace Go.Proofs.Ytddfdciohnabbab
set_option linter.unusedVariables false
set_option linter.unusedSimpArgs false
open Go.RowKit

def fm (n : Nat) (G : Nat → Nat) : List Int := (List.range n).map fun j => (G j : Int)
theorem fm_len (n : Nat) (G : Nat → Nat) : (fm n G).length = n := by simp [fm]
theorem fm_get (n : Nat) (G : Nat → Nat) (j : Nat) (h : j < (fm n G).length) : (fm n G)[j]'h = (G j : Int) := by simp [fm]
theorem fm_congr {n : Nat} {G H : Nat → Nat} (e : ∀ j, j < n → G j = H j) : fm n G = fm n H := by
  unfold fm
  exact List.map_congr_left fun j hj => by rw [e j (List.mem_range.1 hj)]
theorem fm_set {n : Nat} {G H : Nat → Nat} {k v : Nat} (h : ∀ j, j < n → H j = if j = k then v else G j) : ((fm n G).map (Value.int .i64)).set k (.int .i64 (v : Int)) = (fm n H).map (Value.int .i64) := by
  apply List.ext_getElem
  · simp [fm_len]
  · intro j h1 h2
    rw [List.getElem_set]
    simp only [List.getElem_map, fm_get]
    rw [h j (by simpa [fm_len] using h2)]
    by_cases e : k = j
    · subst e; rw [if_pos rfl, if_pos rfl]
    · rw [if_neg e, if_neg (fun e2 => e e2.symm)]
/-- A table of numbers at the head of a block of its own. -/
abbrev TabM (W : World) (B g n : Nat) (G : Nat → Nat) : Prop := W.ownsRow B 2 1 (.slice (some ⟨g, 0, none⟩) n n) n ((fm n G).map (Value.int .i64))
theorem TabM.at' {W : World} {B g n : Nat} {G : Nat → Nat} (h : TabM W B g n G) {j : Nat} (hj : j < n) : W.cell? ⟨g, j, none⟩ = some (.int .i64 (G j : Int)) := by
  rw [h.cellAt j (by omega), List.getElem?_map, List.getElem?_eq_getElem (by rw [fm_len]; exact hj), fm_get]
  rfl
theorem TabM.congr {W : World} {B g n : Nat} {G H : Nat → Nat} (h : TabM W B g n G) (e : ∀ j, j < n → G j = H j) : TabM W B g n H := by
  unfold TabM
  rw [← fm_congr e]
  exact h
theorem TabM.put {W : World} {B g n : Nat} {G H : Nat → Nat} (h : TabM W B g n G) {k v : Nat} (e : ∀ j, j < n → H j = if j = k then v else G j) : TabM (W.setCell ⟨g, k, none⟩ (.int .i64 (v : Int))) B g n H := by
  have := (h.stored k (.int .i64 (v : Int))).1
  rwa [fm_set e] at this
theorem TabM.zero {W : World} {B g n : Nat} {G : Nat → Nat} (h : W.ownsRow B 2 1 (.slice (some ⟨g, 0, none⟩) n n) n (madeCells (Value.int .i64 0).cells (n * 1)).toList) (e : ∀ j, j < n → G j = 0) : TabM W B g n G := by
  rw [show (Value.int .i64 0).cells = #[Value.int .i64 0] from rfl, toList_madeCells_one, Nat.mul_one] at h
  unfold TabM
  rw [show (fm n G).map (Value.int .i64) = List.replicate n (.int .i64 0) by
    apply List.ext_getElem
    · simp [fm_len]
    · intro j h1 h2
      simp only [List.getElem_map, fm_get, List.getElem_replicate]
      rw [e j (by simpa [fm_len] using h1)]
      rfl]
  exact h
theorem TabM.own {W : World} {B g n : Nat} {G : Nat → Nat} (h : TabM W B g n G) : OwnI W B (.slice (some ⟨g, 0, none⟩) n n) (fm n G) := by
  unfold OwnI
  rw [fm_len]
  exact h
/-- The first rows of the matrix. -/
def matK (I : List (List UInt8)) (i : Nat) : List (List Int) := (List.range i).map fun r => fm I.length (ct (I.getD r []))
theorem matK_snoc (I : List (List UInt8)) (i : Nat) : matK I (i + 1) = matK I i ++ [fm I.length (ct (I.getD i []))] := by
  unfold matK
  rw [List.range_succ, List.map_append]
  rfl
theorem matK_len (I : List (List UInt8)) (i : Nat) : (matK I i).length = i := by simp [matK]
/-- A finished row is hung on. -/
theorem rows_more {W w3 : World} {base : Nat} {v v' u : Value} {us : List Value} {L : List (List Int)} {R : List Int} {tmp : Obj} {b : Nat}
    (own : W.ownsRow base 30 1 v us.length us) (rows : RowsIn W base us L) (hu : OwnI W base u R)
    (hlt : ∀ j, j < us.length → ∀ k, (us.getD j undef).ownBlock = some k → k < b) (hub : ∀ k, u.ownBlock = some k → b ≤ k)
    (hown' : w3.ownsRow base 30 1 v' (us.length + 1) (us ++ [u]))
    (hgrow : (W.alloc tmp).grownBy w3 v.ownBlock) : OwnR w3 base v' (L ++ [R]) := by
  have hB : Below W.heap.size W (W.alloc tmp) := Below.new _ _
  have r1 := rows.below hB
  have o2 := hu.below hB
  have own2 := own_below own hB
  have r2 : RowsIn w3 base us L := r1.other hgrow fun j hj k hk c => own_apart (r1.2.1 j hj) own2 (by decide) hk c
  have o3 : OwnI w3 base u R := own_other o2 hgrow fun k hk c => own_apart o2 own2 (by decide) hk c
  exact ⟨us ++ [u], by rw [List.length_append]; exact hown', r2.snoc o3 (b := b) hlt hub⟩

set_option maxRecDepth 100000 in
set_option maxHeartbeats 2000000 in
theorem l06Matrix_any (B : Nat) (v : Value) (I : List (List UInt8)) (w : World) (h : OwnS w B v (I.map bt)) (g : Mor I) :
    Calls Try.prog 136 #[.agg #[v]] w fun e w' => ∃ u, e = .returned u ∧ OwnR w' w.heap.size u (matK I I.length) ∧ Below w.heap.size w w' := by
  obtain ⟨i0, hi, hz0, hz1, hz2⟩ := info_parts infoI64
  obtain ⟨r0, hri, hrz0, hrz1, hrz2⟩ := info_parts infoSI
  have hmo : Try.prog.follows .mixedOrders = true := by kernel_rfl
  have h1 := g.len1
  have h5 := g.len5
  obtain ⟨p, cap, rfl, hg, hc, cell⟩ := h.rowM (by omega)
  obtain ⟨W1, hW1⟩ : ∃ W1 : World, W1 = w.alloc (.cells #[.slice (some ⟨p, 0, none⟩) I.length cap] 57) := ⟨_, rfl⟩
  have B1 : Below w.heap.size w W1 := by rw [hW1]; exact Below.new _ _
  have Q1 : Boxed W1 w.heap.size 57 (.slice (some ⟨p, 0, none⟩) I.length cap) := by rw [hW1]; exact Boxed.new _ _ _
  have C := Lib.hid cell
  have G := Lib.hid g
  have HW1 := Lib.hid hW1
  have HB1 := Lib.hid B1
  have HQ1 := Lib.hid Q1
  have hs1 := B1.size
  have hW1s : W1.heap.size = w.heap.size + 1 := by rw [hW1, World.size_alloc]
  have L0 : OwnR (W1.alloc (.cells #[] 30)) W1.heap.size (.slice (some ⟨w.heap.size + 1, 0, none⟩) 0 0) (matK I 0) := by
    have := OwnR.lit0 (B := W1.heap.size) W1 (Nat.le_refl _)
    rwa [show (Value.slice (some ⟨W1.heap.size, 0, none⟩) 0 0) = .slice (some ⟨w.heap.size + 1, 0, none⟩) 0 0 by rw [hW1s]] at this
  have HL0 := Lib.hid L0
  have hpW : p < W1.heap.size := by omega
  clear h cell g hW1 B1 Q1 hW1s L0
  go_enter Try.func136, Try.ntmps136
  go_wp2_with fail
  rw [← HW1.out]
  go_loopw [3, 4] (fun v t wr => ∃ i : Nat, i ≤ I.length ∧ t = .int .i64 (i : Int) ∧ OwnR wr W1.heap.size v (matK I i) ∧ Below W1.heap.size W1 wr) (fun _ t _ => I.length - (intOf t).toNat)
  case atStart => exact ⟨0, Nat.zero_le _, rfl, HL0.out, Below.new _ _⟩
  case round =>
    obtain ⟨i, hil, rfl, hown, hB⟩ := hrel
    have hbz := hB.size
    have kq := (boxed_later HQ1.out hB).cell
    by_cases hp : i < I.length
    · obtain ⟨us, own, rows⟩ := hown
      have hul := rows.1
      rw [matK_len] at hul
      have kc : wr.cell? ⟨p, i, none⟩ = some (.string (bt (I[i]'hp))) := by rw [(bcell (HB1.out.then hB)).1 p i hg]; exact C.out i hp
      obtain ⟨s12, sw, sf⟩ := G.out.im i hp
      have hlz := lets_of sw sf
      rw [lt_bt] at hlz
      have hge : I.getD i [] = I[i]'hp := by rw [List.getD_eq_getElem?_getD, List.getElem?_eq_getElem hp]; rfl
      have HS : Hid (matK I (i + 1) = matK I i ++ [fm I.length (ct (I[i]'hp))]) := Lib.hid (by rw [matK_snoc, hge])
      have hbg : ∀ q (hq : q < (I[i]'hp).length) (hq' : q < (bt (I[i]'hp)).size), (bt (I[i]'hp))[q]'hq' = (I[i]'hp)[q]'hq := fun q hq hq' => rfl
      have hbz0 : (bt (I[i]'hp)).size = (I[i]'hp).length := rfl
      generalize hL : I[i]'hp = L at *
      generalize bt L = z at *
      have HLz := Lib.hid hlz
      have HBG := Lib.hid hbg
      have HB := Lib.hid hB
      have hz2' : z.size ≤ L.length := by omega
      have hz3' : L.length ≤ z.size := by omega
      have hic : i < cap := by omega
      clear sw sf hlz hge hbg hL hbz0
      go_wp2_with (at_make; go_loud (refine wpList_make_full _ rfl _ _ 30 rfl W1.heap.size 2 i0 (.int .i64 0) 1 Try.underlying30 hi hz0 hz1 .i64 .i64 (I.length : Int) (I.length : Int) I.length rfl rfl (by omega) (by omega) (by rw [hz2]; omega) (by unfold maxLen; omega) hbz ?_); intro wm hrow hgm)
      obtain ⟨wo, hwo⟩ : ∃ wo : World, wo = wr := ⟨_, rfl⟩
      rw [← hwo] at hrow hgm own rows kc kq hbz HB
      have QO := Lib.hid (boxed_later HQ1.out HB.out)
      have T0 : TabM wm W1.heap.size wo.heap.size I.length (fun j => ct (L.take 0) j) := TabM.zero hrow (fun j _ => rfl)
      have BM : Below wo.heap.size wo wm := (Below.refl _ _).grown hgm (Nat.le_refl _) (fun _ e => by cases e)
      have HT0 := Lib.hid T0
      have HBM := Lib.hid BM
      have HOWN := Lib.hid own
      have HROWS := Lib.hid rows
      have KC := Lib.hid kc
      rw [← hwo]
      clear hrow hgm own rows T0 BM hwo kc kq hB
      go_loopw [6] (fun t wq => ∃ q : Nat, q ≤ L.length ∧ t = .int .i64 (q : Int) ∧ TabM wq W1.heap.size wo.heap.size I.length (fun j => ct (L.take q) j) ∧ Below wo.heap.size wo wq) (fun t _ => L.length - (intOf t).toNat)
      case atStart => exact ⟨0, Nat.zero_le _, rfl, HT0.out, HBM.out⟩
      case round =>
        obtain ⟨q, hq, rfl, ht, hBq⟩ := hrel
        have kq := (boxed_later QO.out hBq).cell
        have kc : wr.cell? ⟨p, i, none⟩ = some (.string z) := by rw [(bcell hBq).1 p i (by omega)]; exact KC.out
        have hbq := hBq.size
        by_cases hqn : q < L.length
        · have hqz : q < z.size := by omega
          obtain ⟨n1, hn1, e1, _, e2⟩ := letter_img HLz.out q hqn
          rw [← HBG.out q hqn hqz] at e1
          have hlt : ((z[q]'hqz).toNat : Int) < 256 := by omega
          have kt := ht.at' hn1
          have ft := ht.frozenAt n1
          have hX : ct (L.take q) n1 ≤ 12 := by
            have h1 := ct_le (L.take q) n1
            have h2 : (L.take q).length ≤ q := by rw [List.length_take]; omega
            omega
          have hput := ht.put (k := n1) (v := ct (L.take q) n1 + 1) (H := fun j => ct (L.take (q + 1)) j) (fun j hj => by
            show ct (L.take (q + 1)) j = _
            rw [List.take_succ_eq_append_getElem hqn, ct_snoc]
            by_cases e : j = n1
            · subst e; rw [if_pos e2.symm, if_pos rfl]
            · rw [if_neg (fun e3 => e (letr_inj (by omega) (by omega) (e3.symm.trans e2.symm))), if_neg e, Nat.add_zero])
          have hBs := hBq.setCell (p := ⟨wo.heap.size, n1, none⟩) (Nat.le_refl _) (.int .i64 ((ct (L.take q) n1 + 1 : Nat) : Int))
          rw [show ((ct (L.take q) n1 + 1 : Nat) : Int) = (ct (L.take q) n1 : Int) + 1 by omega] at hput hBs
          have HPUT := Lib.hid hput
          have HBS := Lib.hid hBs
          generalize ct (L.take q) n1 = X at *
          clear hput hBs ht hBq e2
          go_wp2_with fail
          go_roundw
          case rel => exact ⟨q + 1, by omega, by go_num, HPUT.out, HBS.out⟩
          case measure => simp [intOf]; omega
        · have hqe : q = L.length := by omega
          have ht2 : TabM wr W1.heap.size wo.heap.size I.length (ct L) := ht.congr fun j _ => by rw [hqe, List.take_of_length_le (Nat.le_refl _)]
          have own2 := own_below HOWN.out hBq
          have rows2 := HROWS.out.below hBq
          have HT2 := Lib.hid ht2
          have hB2 := HB.out.then hBq
          have HR2 := Lib.hid rows2
          have HO2 := Lib.hid own2
          have HB2 := Lib.hid hB2
          have ownA := World.ownsRow.alloc own2 (.cells #[.slice (some ⟨wo.heap.size, 0, none⟩) I.length I.length] 30)
          clear ht ht2 hqe hBq rows2 own2 hB2
          go_wp2_with (at_builtin; go_loud (refine wpList_append_own _ rfl _ _ 39 rfl W1.heap.size 30 r0 (.slice none 0 0) 1 24 Try.underlying39 hri hrz0 hrz1 hrz2 rfl (by decide) _ _ _ rfl ownA ⟨_, 0, none⟩ 1 1 [.slice (some ⟨wo.heap.size, 0, none⟩) I.length I.length] rfl rfl (cell_new _ _ _) (by intro u hu; simp at hu; subst hu; rfl) (by unfold maxLen; omega) (by omega) (by simp; omega) ?_); intro v' w3 hown' hgrow _)
          have hO := rows_more HO2.out HR2.out HT2.out.own (b := wo.heap.size) (fun j hj k hk => (HROWS.out.lt j hj k hk).2) (fun k hk => Nat.le_of_eq (Option.some.inj hk)) hown' hgrow
          rw [← HS.out] at hO
          have HO := Lib.hid hO
          have hB3 : Below W1.heap.size W1 w3 := (HB2.out.alloc HB2.out.size _).grown hgrow (by simp; omega) (fun q hq => (HO2.out.lt q hq).1)
          clear hO hown' hgrow
          go_roundw
          case rel => exact ⟨i + 1, by omega, by go_num, HO.out, hB3⟩
          case measure => simp [intOf]; omega
    · have hie : i = I.length := by omega
      subst hie
      go_wp2_with fail
      go_ret
      exact ⟨_, rfl, hown.base (by omega), HB1.out.then hB⟩
end Go.Proofs.Ytddfdciohnabbab
