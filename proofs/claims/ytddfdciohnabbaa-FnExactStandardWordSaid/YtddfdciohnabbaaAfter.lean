/- A standard word with one number more: the program. -/
import Derived.Test.YtddfdciohnabbaaSloPlain
import Derived.Test.YtddfdciohnabbaaTurn
import Derived.Test.YtddfdciohnabbaaLib
import Derived.Test.YtddfdciohnabbaaInts
import Derived.RangeFuncBox
import Derived.Deep.RegionHeld3
import Derived.Deep.AppendLies
import Derived.Deep.Cut
import Derived.Laws.Rows
namespace Go.Proofs.Ytddfdciohnabbaa
set_option linter.unusedVariables false
set_option linter.unusedSimpArgs false
open Go.RowKit

/-- A block of the three fields of a standard word. -/
def Sw3 (W : World) (b : Nat) (x y z : Value) : Prop := W.heap[b]? = some (.cells #[x, y, z] 56 (0, 0))
theorem Sw3.lt {W : World} {b : Nat} {x y z : Value} (h : Sw3 W b x y z) : b < W.heap.size := (Array.getElem?_eq_some_iff.1 h).1
theorem Sw3.c0 {W : World} {b : Nat} {x y z : Value} (h : Sw3 W b x y z) : W.cell? ⟨b, 0, none⟩ = some x := by simp [World.cell?, show W.heap[b]? = _ from h]
theorem Sw3.c1 {W : World} {b : Nat} {x y z : Value} (h : Sw3 W b x y z) : W.cell? ⟨b, 1, none⟩ = some y := by simp [World.cell?, show W.heap[b]? = _ from h]
theorem Sw3.c2 {W : World} {b : Nat} {x y z : Value} (h : Sw3 W b x y z) : W.cell? ⟨b, 2, none⟩ = some z := by simp [World.cell?, show W.heap[b]? = _ from h]
theorem Sw3.fz {W : World} {b : Nat} {x y z : Value} (h : Sw3 W b x y z) (j : Nat) : W.frozen? ⟨b, j, none⟩ = false := by simp [World.frozen?, show W.heap[b]? = _ from h]
theorem Sw3.later {W W' : World} {b : Nat} {x y z : Value} (h : Sw3 W b x y z) (k : Below W.heap.size W W') : Sw3 W' b x y z := (k.block _ h.lt).trans h

theorem Sw3.all3 {W : World} {b : Nat} {x y z : Value} (h : Sw3 W b x y z) : W.cell? ⟨b, 0, none⟩ = some x ∧ W.cell? ⟨b, 1, none⟩ = some y ∧ W.cell? ⟨b, 2, none⟩ = some z := ⟨h.c0, h.c1, h.c2⟩
theorem Sw3.other {W : World} {b : Nat} {x y z : Value} (h : Sw3 W b x y z) {b' j : Nat} (hne : b ≠ b') (u : Value) : Sw3 (W.setCell ⟨b', j, none⟩ u) b x y z := (Below.heap_setCell _ _ _ b (fun e => hne (by rw [e]))).trans h
theorem Sw3.seta {W : World} {b : Nat} {x y z : Value} (h : Sw3 W b x y z) (p : Value) : Sw3 (W.setCell ⟨b, 0, none⟩ p) b p y z := by
  obtain ⟨hlt, hk⟩ := Array.getElem?_eq_some_iff.1 h
  show (W.heap.modify b _)[b]? = _
  rw [Array.getElem?_eq_getElem (by rw [Array.size_modify]; exact hlt), Array.getElem_modify_self, hk]
  rfl
theorem Sw3.setb {W : World} {b : Nat} {x y z : Value} (h : Sw3 W b x y z) (p : Value) : Sw3 (W.setCell ⟨b, 1, none⟩ p) b x p z := by
  obtain ⟨hlt, hk⟩ := Array.getElem?_eq_some_iff.1 h
  show (W.heap.modify b _)[b]? = _
  rw [Array.getElem?_eq_getElem (by rw [Array.size_modify]; exact hlt), Array.getElem_modify_self, hk]
  rfl
theorem Sw3.setc {W : World} {b : Nat} {x y z : Value} (h : Sw3 W b x y z) (p : Value) : Sw3 (W.setCell ⟨b, 2, none⟩ p) b x y p := by
  obtain ⟨hlt, hk⟩ := Array.getElem?_eq_some_iff.1 h
  show (W.heap.modify b _)[b]? = _
  rw [Array.getElem?_eq_getElem (by rw [Array.size_modify]; exact hlt), Array.getElem_modify_self, hk]
  rfl
theorem Sw3.set3 {W : World} {b : Nat} {x y z : Value} (h : Sw3 W b x y z) (p q r : Value) : Sw3 (((W.setCell ⟨b, 0, none⟩ p).setCell ⟨b, 1, none⟩ q).setCell ⟨b, 2, none⟩ r) b p q r := ((h.seta p).setb q).setc r
theorem Sw3.far3 {W : World} {b b2 : Nat} {x y z : Value} (h : Sw3 W b x y z) (hne : b ≠ b2) (p q r : Value) :
    (((W.setCell ⟨b2, 0, none⟩ p).setCell ⟨b2, 1, none⟩ q).setCell ⟨b2, 2, none⟩ r).cell? ⟨b, 0, none⟩ = some x ∧ (((W.setCell ⟨b2, 0, none⟩ p).setCell ⟨b2, 1, none⟩ q).setCell ⟨b2, 2, none⟩ r).cell? ⟨b, 1, none⟩ = some y ∧ (((W.setCell ⟨b2, 0, none⟩ p).setCell ⟨b2, 1, none⟩ q).setCell ⟨b2, 2, none⟩ r).cell? ⟨b, 2, none⟩ = some z :=
  (((h.other hne p).other hne q).other hne r).all3
theorem Sw3.new (W : World) (x y z : Value) : Sw3 (W.alloc (.cells #[x, y, z] 56)) W.heap.size x y z := World.alloc_heap_new W _
theorem Sw3.grown {W W' : World} {b : Nat} {x y z : Value} {r : Option Nat} (h : Sw3 W b x y z) (k : W.grownBy W' r) (hr : some b ≠ r) : Sw3 W' b x y z := (k.block b h.lt hr).trans h

theorem ownI_snoc {w : World} {B : Nat} {v : Value} {L : List Int} {s : Int} (h : w.ownsRow B 2 1 v (L.length + 1) (L.map (Value.int .i64) ++ [Value.int .i64 s])) : OwnI w B v (L ++ [s]) := by
  unfold OwnI
  rw [List.length_append, List.map_append]
  exact h
/-- A cell of a block made just now, in a later world. -/
def NewC (W : World) (b : Nat) (x : Value) : Prop := b < W.heap.size ∧ ∀ j u, [x][j]? = some u → W.cell? ((⟨b, 0, none⟩ : Addr).add j) = some u
theorem newC_of {W y : World} {x : Value} {t : TypeId} (q : Below (W.alloc (.cells #[x] t)).heap.size (W.alloc (.cells #[x] t)) y) : NewC y W.heap.size x := by
  have hz := q.size
  rw [World.size_alloc] at hz
  refine ⟨by omega, fun j u hu => ?_⟩
  have h := cell_new W x t j u hu
  rw [show ((⟨W.heap.size, 0, none⟩ : Addr).add j) = ⟨W.heap.size, j, none⟩ by simp [Addr.add]; omega] at h ⊢
  rw [(bcell q).1 W.heap.size j (by rw [World.size_alloc]; omega)]
  exact h
theorem newC_ofd {W y : World} {x : Value} {t : TypeId} (q : Below (W.alloc (.cells #[x] t)).drew.heap.size (W.alloc (.cells #[x] t)).drew y) : NewC y W.heap.size x := newC_of (((Below.refl _ _).drew).then q)
theorem NewC.later {W W' : World} {b : Nat} {x : Value} (h : NewC W b x) (q : Below W.heap.size W W') : NewC W' b x := by
  refine ⟨Nat.lt_of_lt_of_le h.1 q.size, fun j u hu => ?_⟩
  have k := h.2 j u hu
  rw [show ((⟨b, 0, none⟩ : Addr).add j) = ⟨b, j, none⟩ by simp [Addr.add]; omega] at k ⊢
  rw [(bcell q).1 b j h.1]
  exact k

set_option maxRecDepth 100000 in
set_option maxHeartbeats 4000000 in
theorem after_any (now bef : ByteArray) (d B : Nat) (v : Value) (L : List Int) (w : World) (h : OwnI w B v L) (hv : L = [] → v = .slice none 0 0) (h1 : now.size ≤ 60) (h2 : bef.size ≤ 60) (h3 : d ≤ 62) (h4 : L.length ≤ 64) :
    Calls Try.prog 52 #[.agg #[.string now, .string bef, v], .int .i64 (d : Int)] w fun e w' => ∃ v', e = .returned (.agg #[.string (stdN now bef d), .string now, v']) ∧ OwnI w' w.heap.size v' (L ++ [(d : Int)]) ∧ Below w.heap.size w w' := by
  obtain ⟨i0, hi, hz0, hz1, hz2⟩ := info_parts infoI64
  -- what slices.Clone gives, whatever the list is
  have KC : Hid (∀ W, OwnI W B v L → Calls Try.prog 79 #[v] W fun e w' => ∃ v', e = .returned v' ∧ OwnI w' W.heap.size v' L ∧ Below W.heap.size W w') := Lib.hid fun W hW => by
    by_cases hL : L = []
    · obtain rfl := hv hL
      subst hL
      exact (Try.slices_Clone_int_nil 0 0 W).mono fun e w' ⟨he, hw⟩ => ⟨_, he, OwnI.nil _ _, by rw [hw]; exact Below.refl _ _⟩
    · obtain ⟨g, c, rfl, _, hg, hc, hm, cell, _⟩ := hW.row (List.length_pos_iff.2 hL)
      refine (Try.slices_Clone_int g 0 L.length c L W (Nat.le_refl _) (by omega) (fun j hj => ?_)).mono fun e w' ⟨v', he, ho, _, hb⟩ => ⟨v', he, ?_, hb⟩
      · rw [Nat.zero_add, cell j hj, List.getD_eq_getElem?_getD, List.getElem?_eq_getElem hj]; rfl
      · rw [List.take_length] at ho; exact ho
  have KR := Lib.hid fun W => Try.strings_Repeat now d W (by omega) (by have := Nat.mul_le_mul h1 h3; omega)
  have HRP : Hid ((⟨(Lib.repeatL now.data.toList d).toArray⟩ : ByteArray) = pow now d) := Lib.hid rfl
  have HSZ : Hid ((pow now d).size ≤ 3720) := Lib.hid (by rw [pow_size]; exact Nat.le_trans (Nat.mul_le_mul h1 h3) (by decide))
  have HSN : Hid (stdN now bef d = pow now d ++ bef) := Lib.hid rfl
  have hsum : ∀ W, (Op.stringOp .add (pow now d) bef).run Try.prog W = .ok (.string (pow now d ++ bef)) W := fun W => run_string_add_sum W (pow now d) bef (by have := HSZ.out; omega)
  generalize pow now d = PW at *
  obtain ⟨W0, hW0⟩ : ∃ W0 : World, W0 = (w.alloc (.cells #[.string now, .string bef, v] 56)).alloc (.cells #[.string ⟨#[]⟩, .string ⟨#[]⟩, .slice none 0 0] 56) := ⟨_, rfl⟩
  have B0 : Below w.heap.size w W0 := by rw [hW0]; exact (Below.new _ _).then (Below.new _ _)
  have st1 : Sw3 W0 w.heap.size (.string now) (.string bef) v := by rw [hW0]; exact (Sw3.new w _ _ _).later (Below.new _ _)
  have st2 : Sw3 W0 (w.heap.size + 1) (.string ⟨#[]⟩) (.string ⟨#[]⟩) (.slice none 0 0) := by
    rw [hW0]
    have := Sw3.new (w.alloc (.cells #[.string now, .string bef, v] 56)) (.string ⟨#[]⟩) (.string ⟨#[]⟩) (.slice none 0 0)
    rwa [World.size_alloc] at this
  have own := h.below B0
  have hz : W0.heap.size = w.heap.size + 2 := by rw [hW0, World.size_alloc, World.size_alloc]
  have HW0 := Lib.hid hW0
  have HB0 := Lib.hid B0
  clear h hv hW0 B0
  go_enter Try.func52, Try.ntmps52
  go_wp2_with fail
  rw [← HW0.out]
  have ST1 := Lib.hid st1
  have ST2 := Lib.hid st2
  have OWN := Lib.hid own
  have HWZ := Lib.hid hz
  have CUR : Below W0.heap.size W0 W0.drew := (Below.refl _ _).drew
  clear st1 st2 own hz
  go_region_held3 (fun w' => w'.cell? ⟨w.heap.size, 0, none⟩ = some (.string now) ∧ w'.cell? ⟨w.heap.size, 1, none⟩ = some (.string bef) ∧ w'.cell? ⟨w.heap.size, 2, none⟩ = some v)
    (first | (with_reducible exact (ST1.out.later CUR).all3) | (with_reducible exact (ST1.out.later (CUR.alloc CUR.size _)).all3) | (with_reducible exact (ST1.out.later ((Below.new W0 _).drew)).all3) | (with_reducible exact ((ST1.out.later CUR).far3 (by omega) _ _ _)) | go_keep)
    (first
      | (go_at_call 78; refine (KR.out _).mono ?_; rintro e y1 ⟨rfl, q1⟩; rw [HRP.out]; (try (have kn := newC_of q1)); (try (have kn := newC_ofd q1)); (try (have kn := kn.later q1)); have CUR := (by first | (with_reducible exact CUR.then q1) | (with_reducible exact (CUR.alloc CUR.size _).then q1) | (with_reducible exact ((Below.new W0 _).drew).then q1)); (try (have oc := (by first | (with_reducible exact oc.below q1) | (with_reducible exact (oc.below (Below.new _ _)).below q1)))); (try (have oa := oa.below q1)); have st2 := ST2.out.later CUR; have d0 := st2.c0; have d1 := st2.c1; have d2 := st2.c2; have f0 := st2.fz 0; have f1 := st2.fz 1; have f2 := st2.fz 2)
      | (go_at_call 79; refine (KC.out _ (by first | (with_reducible exact OWN.out.below CUR) | (with_reducible exact OWN.out.below (CUR.alloc CUR.size _)) | (with_reducible exact OWN.out.below ((Below.new W0 _).drew)))).mono ?_; rintro e y1 ⟨vc, rfl, oc, q1⟩; (try (have kn := newC_of q1)); (try (have kn := newC_ofd q1)); (try (have kn := kn.later q1)); have oc := (by first | (with_reducible exact oc.base CUR.size) | (with_reducible exact oc.base (CUR.alloc CUR.size _).size) | (with_reducible exact oc.base ((Below.new W0 _).drew).size)); have CUR := (by first | (with_reducible exact CUR.then q1) | (with_reducible exact (CUR.alloc CUR.size _).then q1) | (with_reducible exact ((Below.new W0 _).drew).then q1)); have st2 := ST2.out.later CUR; have d0 := st2.c0; have d1 := st2.c1; have d2 := st2.c2; have f0 := st2.fz 0; have f1 := st2.fz 1; have f2 := st2.fz 2)
      | (refine step_append_lies _ (by rfl) _ _ 28 (by rfl) W0.heap.size 2 i0 (.int .i64 0) 1 8 Try.underlying28 hi hz0 hz1 hz2 rfl (by decide) vc L.length (L.map (Value.int .i64)) (by rfl) (World.ownsRow.alloc oc _) ⟨y1.heap.size, 0, none⟩ 1 1 [.int .i64 (d : Int)] (by rfl) (by rfl) (cell_new _ _ _) (by simp [Value.oneCell']) (by omega) (by unfold maxLen; omega) (by omega) (CUR.alloc CUR.size _).size _ rfl ?_; intro gg cap w1 hown1 hgrow hat hlt; have CUR := (CUR.alloc CUR.size _).grown hgrow (CUR.alloc CUR.size _).size (fun q hq => (World.ownsRow.lt oc q hq).1); have oa := ownI_snoc hown1; have st2 := ST2.out.later CUR; have d0 := st2.c0; have d1 := st2.c1; have d2 := st2.c2; have f0 := st2.fz 0; have f1 := st2.fz 1; have f2 := st2.fz 2)
      | (refine step_append_lies _ (by rfl) _ _ 28 (by rfl) W0.heap.size 2 i0 (.int .i64 0) 1 8 Try.underlying28 hi hz0 hz1 hz2 rfl (by decide) vc L.length (L.map (Value.int .i64)) (by rfl) oc _ 1 1 [.int .i64 (d : Int)] (by rfl) (by rfl) kn.2 (by simp [Value.oneCell']) (by omega) (by unfold maxLen; omega) (by omega) CUR.size _ rfl ?_; intro gg cap w1 hown1 hgrow hat hlt; have CUR := CUR.grown hgrow CUR.size (fun q hq => (World.ownsRow.lt oc q hq).1); have oa := ownI_snoc hown1; have st2 := ST2.out.later CUR; have d0 := st2.c0; have d1 := st2.c1; have d2 := st2.c2; have f0 := st2.fz 0; have f1 := st2.fz 1; have f2 := st2.fz 2))
  all_goals (try go_wp2_with fail)
  all_goals
    have hwz := HWZ.out
    have st3 := (ST2.out.later CUR).set3 (.string (PW ++ bef)) (.string now) (.slice (some ⟨gg, 0, none⟩) (L.length + 1) cap)
    have o1 : OwnI (((w1.setCell ⟨w.heap.size + 1, 0, none⟩ (.string (PW ++ bef))).setCell ⟨w.heap.size + 1, 1, none⟩ (.string now)).setCell ⟨w.heap.size + 1, 2, none⟩ (.slice (some ⟨gg, 0, none⟩) (L.length + 1) cap)) W0.heap.size (.slice (some ⟨gg, 0, none⟩) (L.length + 1) cap) (L ++ [(d : Int)]) := ownsRow_setCell_below (ownsRow_setCell_below (ownsRow_setCell_below oa (by show w.heap.size + 1 < W0.heap.size; omega) _) (by show w.heap.size + 1 < W0.heap.size; omega) _) (by show w.heap.size + 1 < W0.heap.size; omega) _
    have bb := (((HB0.out.then CUR).setCell (p := ⟨w.heap.size + 1, 0, none⟩) (by show w.heap.size ≤ w.heap.size + 1; omega) (.string (PW ++ bef))).setCell (p := ⟨w.heap.size + 1, 1, none⟩) (by show w.heap.size ≤ w.heap.size + 1; omega) (.string now)).setCell (p := ⟨w.heap.size + 1, 2, none⟩) (by show w.heap.size ≤ w.heap.size + 1; omega) (.slice (some ⟨gg, 0, none⟩) (L.length + 1) cap)
    exact bodyPost_ret (results_cell_row Try.results52 _ _ (w.heap.size + 1) _ _ _ _ rfl st3 Try.underlying56 rfl (by kernel_rfl)) rfl ⟨_, by rw [HSN.out], o1.base (by omega), bb⟩

end Go.Proofs.Ytddfdciohnabbaa
