/- A struct of one list of texts that came in: weighed, copied, compared, marked. -/
import Derived.Test.YtfipbnognjepkaaDoorStrs
import Derived.Test.YtfipbnognjepkaaDoorIsRowS
import Derived.Test.YtfipbnognjepkaaDoorMorPlain
import Derived.RangeFuncBox
import Derived.RangeFuncNested
import Derived.Maps.AppendAt
namespace Go.Proofs.YtfipbnognjepkaaDoor
set_option linter.unusedVariables false
set_option linter.unusedSimpArgs false
open Go.RowKit

theorem boxed_later {W W' : World} {b : Nat} {t : TypeId} {v : Value} (h : Boxed W b t v) (k : Below W.heap.size W W') : Boxed W' b t v := (k.block _ h.lt).trans h
/-- What a call did, told of the world ahead of a draw. -/
theorem below_undrew {W W' : World} (b : Below W.drew.heap.size W.drew W') : Below W.heap.size W W' := (Below.refl _ _).drew.trans b
theorem boxed_alone {W : World} {t : TypeId} {v : Value} : Boxed (W.alloc (.cells #[v] t)) W.heap.size t v := Boxed.new _ _ _

/-- What the weighing of a list of texts comes to. -/
def SzAns (left : Int) (len : Nat) (zs : List ByteArray) (w : World) (e : Ending) (w' : World) : Prop :=
  ∃ r : Int, e = .returned (.int .i64 r) ∧ Below w.heap.size w w' ∧ (r = -1 ∨ 0 ≤ r ∧ r + len ≤ left ∧ ∀ s ∈ zs.take len, (s.size : Int) ≤ left)
theorem take_snoc_mem {zs : List ByteArray} {k : Nat} {left : Int} (h : ∀ s ∈ zs.take k, (s.size : Int) ≤ left) (hk : k < zs.length) (h1 : ((zs.getD k ByteArray.empty).size : Int) ≤ left) : ∀ s ∈ zs.take (k + 1), (s.size : Int) ≤ left := by
  intro s hs
  rw [List.take_succ_eq_append_getElem hk, List.mem_append, List.mem_singleton] at hs
  rcases hs with hs | hs
  · exact h s hs
  · subst hs
    rw [List.getD_eq_getElem?_getD, List.getElem?_eq_getElem hk] at h1
    exact h1

set_option maxRecDepth 100000 in
set_option maxHeartbeats 1000000 in
theorem szS_any (a : Option Addr) (len cap : Nat) (zs : List ByteArray) (left : Int) (w : World) (h : IsRowS w a len cap zs) (l0 : 0 ≤ left) (l1 : left ≤ 1048576) :
    Calls Tryd.prog 125 #[.slice a len cap, .int .i64 left] w (SzAns left len zs w) := by
  have hlen := h.len_le
  rcases h with ⟨rfl, rfl, rfl, rfl⟩ | ⟨x, rfl, hlc, hcm, hzl, hcell, hsz⟩
  · have hn : ¬ left < 0 := by omega
    go_enter Tryd.func125, Tryd.ntmps125
    go_wp2
    refine wp_loop_rounds 1 ?_
    rw [rounds_succ]
    go_wp2
    go_ret
    exact ⟨left, by first | rfl | simp, Below.refl _ _, .inr ⟨l0, by simp, fun s hs => by cases hs⟩⟩
  · unfold maxLen at hcm
    have HC := Lib.hid hcell
    have HZ := Lib.hid hsz
    clear hcell hsz
    by_cases hbig : left < (len : Int)
    · have hneg : left - (len : Int) < 0 := by omega
      go_enter Tryd.func125, Tryd.ntmps125
      go_wp2
      go_ret
      exact ⟨-1, rfl, Below.refl _ _, .inl rfl⟩
    · have hneg : ¬ left - (len : Int) < 0 := by omega
      go_enter Tryd.func125, Tryd.ntmps125
      go_wp2
      go_loopw [1, 5] (fun q i wr => ∃ (k : Nat) (l : Int), i = .int .i64 k ∧ q = .int .i64 l ∧ k ≤ len ∧ 0 ≤ l ∧ l + len ≤ left ∧ Hid (∀ s ∈ zs.take k, (s.size : Int) ≤ left) ∧ Below w.heap.size w wr) (fun _ i _ => len - (intOf i).toNat)
      case atStart => exact ⟨0, left - len, rfl, rfl, Nat.zero_le _, by omega, by omega, Lib.hid (fun s hs => by cases hs), Below.refl _ _⟩
      case round =>
        obtain ⟨k, l, rfl, rfl, hk, hl0, hl1, HS, hB⟩ := hrel
        by_cases hp : k < len
        · have hc := HC.out k (by omega)
          have k0 : wr.cell? (x.add k) = some (.string (zs.getD k ByteArray.empty)) := by
            rw [hB.cell (World.block_lt_of_cell? _ _ hc)]; exact hc
          have hkc : k < cap := by omega
          have hz1 : (zs.getD k ByteArray.empty).size ≤ maxLen := by
            rw [List.getD_eq_getElem?_getD, List.getElem?_eq_getElem (show k < zs.length by omega)]
            exact HZ.out _ (List.getElem_mem _)
          unfold maxLen at hz1
          have HT := Lib.hid (fun (h : ((zs.getD k ByteArray.empty).size : Int) ≤ left) => take_snoc_mem HS.out (by omega) h)
          clear hc
          generalize zs.getD k ByteArray.empty = z at k0 hz1 HT
          by_cases hlt : l < (z.size : Int)
          · have hn2 : l - (z.size : Int) < 0 := by omega
            go_wp2
            go_ret
            exact ⟨-1, rfl, hB, .inl rfl⟩
          · have hn2 : ¬ l - (z.size : Int) < 0 := by omega
            go_wp2
            go_roundw
            case rel => exact ⟨k + 1, l - z.size, by go_num, rfl, by omega, by omega, by omega, Lib.hid (HT.out (by omega)), hB⟩
            case measure => simp [intOf]; omega
        · have hke : k = len := by omega
          subst hke
          go_wp2
          go_ret
          exact ⟨l, rfl, hB, .inr ⟨hl0, by omega, HS.out⟩⟩

set_option maxRecDepth 100000 in
theorem szM_any (a : Option Addr) (len cap : Nat) (zs : List ByteArray) (left : Int) (w : World) (h : IsRowS w a len cap zs) (l0 : 0 ≤ left) (l1 : left ≤ 1048576) :
    Calls Tryd.prog 56 #[.agg #[.slice a len cap], .int .i64 left] w (SzAns left len zs w) := by
  have H := Lib.hid h
  clear h
  go_enter Tryd.func56, Tryd.ntmps56
  go_wp2_with fail
  refine (szS_any a len cap zs left _ (H.out.below (Below.new _ _)) l0 l1).mono ?_
  rintro e w1 ⟨r, rfl, b1, hr⟩
  have B1 := (Below.new _ _).then b1
  have HR := Lib.hid hr
  rcases hr with rfl | ⟨h1, h2, h3⟩
  · go_wp2_with fail
    go_ret
    exact ⟨-1, rfl, B1, .inl rfl⟩
  · have hn : ¬ r < 0 := by omega
    clear h3
    go_wp2_with fail
    go_ret
    exact ⟨r, rfl, B1, HR.out⟩

def cpkS (zs : List ByteArray) (len k : Nat) : List ByteArray := zs.take k ++ List.replicate (len - k) ⟨#[]⟩
theorem cpkS_zero (zs : List ByteArray) (len : Nat) : cpkS zs len 0 = List.replicate len ⟨#[]⟩ := by simp [cpkS]
theorem cpkS_len (zs : List ByteArray) (len k : Nat) (h : k ≤ len) (h2 : len ≤ zs.length) : (cpkS zs len k).length = len := by simp [cpkS]; omega
theorem cpkS_step (zs : List ByteArray) (len k : Nat) (h : k < len) (h2 : len ≤ zs.length) : ((cpkS zs len k).map Value.string).set k (.string (zs.getD k ByteArray.empty)) = (cpkS zs len (k + 1)).map Value.string := by
  apply List.ext_getElem
  · simp [cpkS]; omega
  · intro i h3 h4
    simp only [List.getElem_set, List.getElem_map]
    have hk : (zs.take k).length = k := by simp; omega
    have hk1 : (zs.take (k + 1)).length = k + 1 := by simp; omega
    by_cases e : k = i
    · subst e
      rw [if_pos rfl]
      congr 1
      unfold cpkS
      rw [List.getElem_append_left (by omega), List.getElem_take]
      simp [List.getD_eq_getElem?_getD, List.getElem?_eq_getElem (show k < zs.length by omega)]
    · rw [if_neg e]
      congr 1
      unfold cpkS
      simp only [List.getElem_append, hk, hk1]
      by_cases h5 : i < k
      · rw [dif_pos h5, dif_pos (by omega)]
        simp
      · rw [dif_neg h5, dif_neg (by omega)]
        simp
theorem cpkS_end (zs : List ByteArray) (len : Nat) : cpkS zs len len = zs.take len := by simp [cpkS]

set_option maxRecDepth 100000 in
set_option maxHeartbeats 1000000 in
theorem toS_any (a : Option Addr) (len cap : Nat) (zs : List ByteArray) (w : World) (h : IsRowS w a len cap zs) (hl : len ≤ 1048576) :
    Calls Tryd.prog 127 #[.slice a len cap] w fun e w' => ∃ v, e = .returned v ∧ OwnS w' w.heap.size v (zs.take len) ∧ Below w.heap.size w w' := by
  obtain ⟨i0, hi, hz0, hz1, hz2⟩ := info_parts infoStr
  rcases h with ⟨rfl, rfl, rfl, rfl⟩ | ⟨x, rfl, hlc, hcm, hzl, hcell, hwf⟩
  · go_enter Tryd.func127, Tryd.ntmps127
    go_wp2_with (at_make; refine wpList_make_full _ rfl _ _ 22 rfl w.heap.size 9 i0 (.string ⟨#[]⟩) 1 Tryd.underlying22 hi hz0 hz1 .i64 .i64 0 0 0 rfl rfl rfl rfl (by rw [hz2]; decide) (by decide) (Nat.le_refl _) ?_; intro w1 hown hgrow)
    refine wp_loop_rounds 1 ?_
    rw [rounds_succ]
    have HO := Lib.hid hown
    have HG := Lib.hid hgrow
    clear hown hgrow
    go_wp2
    go_ret
    have h2 : OwnS w1 w.heap.size (.slice (some ⟨w.heap.size, 0, none⟩) 0 0) [] := by
      have h3 := HO.out
      rw [show (Value.string ⟨#[]⟩).cells = #[Value.string ⟨#[]⟩] from rfl, toList_madeCells_one] at h3
      exact h3
    exact ⟨_, rfl, h2, (Below.refl _ _).grown HG.out (Nat.le_refl _) (fun _ e => by cases e)⟩
  · have HC := Lib.hid hcell
    have hlen : len ≤ zs.length := by omega
    clear hcell hwf
    go_enter Tryd.func127, Tryd.ntmps127
    go_wp2_with (at_make; refine wpList_make_full _ rfl _ _ 22 rfl w.heap.size 9 i0 (.string ⟨#[]⟩) 1 Tryd.underlying22 hi hz0 hz1 .i64 .i64 len len len rfl rfl rfl rfl (by rw [hz2]; omega) (by unfold maxLen; omega) (Nat.le_refl _) ?_; intro w1 hown hgrow)
    have hown0 : w1.ownsRow w.heap.size 9 1 (.slice (some ⟨w.heap.size, 0, none⟩) len len) len ((cpkS zs len 0).map Value.string) := by
      have h2 := hown
      rw [show (Value.string ⟨#[]⟩).cells = #[Value.string ⟨#[]⟩] from rfl, toList_madeCells_one, Nat.mul_one] at h2
      rw [cpkS_zero, List.map_replicate]
      exact h2
    have B1 : Below w.heap.size w w1 := (Below.refl _ _).grown hgrow (Nat.le_refl _) (fun _ e => by cases e)
    clear hown hgrow
    go_loopw [4] (fun i wr => ∃ k : Nat, k ≤ len ∧ i = .int .i64 k ∧ wr.ownsRow w.heap.size 9 1 (.slice (some ⟨w.heap.size, 0, none⟩) len len) len ((cpkS zs len k).map Value.string) ∧ Below w.heap.size w wr)
      (fun i _ => len - (intOf i).toNat)
    case atStart => exact ⟨0, Nat.zero_le _, rfl, hown0, B1⟩
    case round =>
      obtain ⟨k, hk, rfl, hown, hB⟩ := hrel
      clear hown0 B1
      by_cases hp : k < len
      · have hc := HC.out k (by omega)
        have k0 : wr.cell? (x.add k) = some (.string (zs.getD k ByteArray.empty)) := by
          rw [hB.cell (World.block_lt_of_cell? _ _ hc)]; exact hc
        have hcl := cpkS_len zs len k hk hlen
        have k1 : wr.cell? ⟨w.heap.size, k, none⟩ = some (.string ((cpkS zs len k).getD k ByteArray.empty)) := by
          rw [hown.cellAt k (by omega)]
          simp [List.getD_eq_getElem?_getD, List.getElem?_eq_getElem (show k < (cpkS zs len k).length by omega)]
        have k2 : wr.frozen? ⟨w.heap.size, k, none⟩ = false := hown.frozenAt k
        have hst := hown.stored k (.string (zs.getD k ByteArray.empty))
        rw [cpkS_step zs len k hp hlen] at hst
        generalize (cpkS zs len k).getD k ByteArray.empty = y at k1
        generalize zs.getD k ByteArray.empty = z at k0 hst
        have HS := Lib.hid hst
        have hkc : k < cap := by omega
        clear hst hown hc hcl
        go_wp2
        go_roundw
        case rel => exact ⟨k + 1, by omega, by go_num, HS.out.1, hB.setCell (p := ⟨w.heap.size, k, none⟩) (Nat.le_refl _) _⟩
        case measure => simp [intOf]; omega
      · have hke : k = len := by omega
        subst hke
        have HO := Lib.hid hown
        clear hown
        go_wp2
        go_ret
        refine ⟨_, rfl, ?_, hB⟩
        have h2 := HO.out
        rw [cpkS_end] at h2
        unfold OwnS
        rw [show (zs.take k).length = k by simp; omega]
        exact h2

theorem ownS_value {w : World} {B : Nat} {v : Value} {L : List ByteArray} (h : OwnS w B v L) : ∃ a c, v = .slice a L.length c := by
  rcases own_forms h with ⟨rfl, h0, _⟩ | ⟨g, cap, hv, _⟩
  · exact ⟨none, 0, by rw [h0]⟩
  · exact ⟨_, cap, hv⟩

set_option maxRecDepth 100000 in
theorem toM_any (a : Option Addr) (len cap : Nat) (zs : List ByteArray) (w : World) (h : IsRowS w a len cap zs) (hl : len ≤ 1048576) :
    Calls Tryd.prog 60 #[.agg #[.slice a len cap]] w fun e w' => ∃ p c, e = .returned (.agg #[.slice p ((zs.take len).map lts).length c]) ∧ OwnS w' w.heap.size (.slice p ((zs.take len).map lts).length c) (((zs.take len).map lts).map bt) ∧ Below w.heap.size w w' := by
  rw [map_bt_lt, List.length_map]
  have ts := fun w' (b : Below w.heap.size w w') => toS_any a len cap zs w' (h.below b) hl
  generalize zs.take len = L at ts ⊢
  have TS := Lib.hid ts
  clear h ts
  go_enter Tryd.func60, Tryd.ntmps60
  go_wp2_with fail
  obtain ⟨W0, hW0⟩ : ∃ W0 : World, W0 = ((w.alloc (.cells #[.slice a len cap] 24)).alloc (.cells #[.slice none 0 0] 29)).alloc (.cells #[.slice none 0 0] 29) := ⟨_, rfl⟩
  have q2 : Boxed W0 (w.heap.size + 1) 29 (.slice none 0 0) := by
    have := Boxed.new (w.alloc (.cells #[.slice a len cap] 24)) 29 (.slice none 0 0)
    rw [World.size_alloc] at this
    rw [hW0]
    exact this.alloc _
  have q3 : Boxed W0 (w.heap.size + 1 + 1) 29 (.slice none 0 0) := by
    have := Boxed.new ((w.alloc (.cells #[.slice a len cap] 24)).alloc (.cells #[.slice none 0 0] 29)) 29 (.slice none 0 0)
    simp only [World.size_alloc] at this
    rw [hW0]
    exact this
  have B0 : Below w.heap.size w W0 := by rw [hW0]; exact ((Below.new _ _).alloc (by simp) _).alloc (by simp; omega) _
  have hz0 : W0.heap.size = w.heap.size + 1 + 1 + 1 := by rw [hW0]; simp
  rw [← hW0]
  have HZ := Lib.hid hz0
  clear hW0 hz0
  refine (TS.out _ B0).mono ?_
  rintro e w1 ⟨v, rfl, o1, b1⟩
  obtain ⟨p, c, rfl⟩ := ownS_value o1
  generalize hn : L.length = n at *
  have HN := Lib.hid hn
  clear hn
  have r2 := boxed_later q2 b1
  have r3 := boxed_later q3 b1
  have B1 := B0.then b1
  have k3 := r3.cell
  have f3 := r3.frozen
  have k2 := r2.cell
  have f2 := r2.frozen
  have l3 := r3.lt
  have r3' := r3.set (.slice p n c)
  have r2' := (r2.other (B' := w.heap.size + 1 + 1) (by omega) (.slice p n c)).set (.slice p n c)
  have HO : Hid (OwnS ((w1.setCell ⟨w.heap.size + 1 + 1, 0, none⟩ (.slice p n c)).setCell ⟨w.heap.size + 1, 0, none⟩ (.slice p n c)) w.heap.size (.slice p n c) L) := Lib.hid (by
    have hz := HZ.out
    have hlt := o1.lt
    refine own_base (B := W0.heap.size) ?_ B0.size
    refine World.ownsRow.kept (World.ownsRow.kept o1 (grownBy_setCell' _ _ _) ?_) (grownBy_setCell' _ _ _) ?_
    · cases hv : (Value.slice p n c).ownBlock with
      | none => exact .inl rfl
      | some k => refine .inr fun c => ?_; have := (hlt k hv).1; injection c with c2; omega
    · cases hv : (Value.slice p n c).ownBlock with
      | none => exact .inl rfl
      | some k => refine .inr fun c => ?_; have := (hlt k hv).1; injection c with c2; omega)
  have BB : Below w.heap.size w ((w1.setCell ⟨w.heap.size + 1 + 1, 0, none⟩ (.slice p n c)).setCell ⟨w.heap.size + 1, 0, none⟩ (.slice p n c)) := (B1.setCell (p := ⟨w.heap.size + 1 + 1, 0, none⟩) (by show _ ≤ w.heap.size + 1 + 1; omega) _).setCell (p := ⟨w.heap.size + 1, 0, none⟩) (by show _ ≤ w.heap.size + 1; omega) _
  have HBB := Lib.hid BB
  have R2 := Lib.hid r2'
  clear o1 b1 B1 BB r3' r2' q2 q3 r2 r3
  go_wp2_with fail
  refine bodyPost_ret (v := .agg #[.slice p n c]) ?_ rfl ⟨p, c, by rw [HN.out], by rw [HN.out]; exact HO.out, HBB.out⟩
  have hc := R2.out.cell
  simp [results, Tryd.results60, go_sem, hc]

set_option maxRecDepth 100000 in
theorem eqM_yes (B1 B2 : Nat) (v1 v2 : Value) (L : List ByteArray) (w : World) (h1 : OwnS w B1 v1 L) (h2 : OwnS w B2 v2 L) :
    Calls Tryd.prog 64 #[.agg #[v1], .agg #[v2]] w fun e w' => e = .returned (.bool true) ∧ Below w.heap.size w w' := by
  have H1 := Lib.hid h1
  have H2 := Lib.hid h2
  clear h1 h2
  go_enter Tryd.func64, Tryd.ntmps64
  go_wp2_with fail
  have B2' : Below w.heap.size w ((w.alloc (.cells #[v1] 29)).alloc (.cells #[v2] 29)) := (Below.new _ _).alloc (by simp) _
  refine (eqS_yes _ _ v1 v2 L _ (H1.out.below B2') (H2.out.below B2')).mono ?_
  rintro e w1 ⟨rfl, b1⟩
  go_wp2_with fail
  go_ret
  exact ⟨rfl, B2'.then b1⟩

theorem tot_take {len : Nat} {zs : List ByteArray} (hl : len ≤ 1048576) (h : ∀ s ∈ zs.take len, s.size ≤ 1048576) : ((zs.take len).map lts).length ≤ 1048576 ∧ ∀ j (hj : j < ((zs.take len).map lts).length), (((zs.take len).map lts)[j]'hj).length ≤ 1048576 := by
  refine ⟨by simp; omega, fun j hj => ?_⟩
  rw [List.getElem_map, lt_len]
  exact h _ (List.getElem_mem _)
/-- A list of texts that can be looked through. -/
def Tot (I : List (List UInt8)) : Prop := I.length ≤ 1048576 ∧ ∀ j (hj : j < I.length), (I[j]'hj).length ≤ 1048576
theorem tot_of {len : Nat} {zs : List ByteArray} (hl : len ≤ 1048576) (h : ∀ s ∈ zs.take len, s.size ≤ 1048576) : Tot ((zs.take len).map lts) := tot_take hl h
theorem take_lts_le (len : Nat) (zs : List ByteArray) : ((zs.take len).map lts).length ≤ len := by simp; omega
end Go.Proofs.YtfipbnognjepkaaDoor
