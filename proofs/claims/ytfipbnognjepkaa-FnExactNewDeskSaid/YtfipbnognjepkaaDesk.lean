/- A desk: a struct of two texts and a list of texts: weighed, copied, compared, marked. -/
import Derived.Test.YtfipbnognjepkaaToS
namespace Go.Proofs.Ytfipbnognjepkaa
set_option linter.unusedVariables false
set_option linter.unusedSimpArgs false
open Go.RowKit Go.ChangeShapes Go.WideShapes

def Dk3 (t : TypeId) (W : World) (b : Nat) (x y z : Value) : Prop := W.heap[b]? = some (.cells #[x, y, z] t (0, 0))
theorem Dk3.lt {t : TypeId} {W : World} {b : Nat} {x y z : Value} (h : Dk3 t W b x y z) : b < W.heap.size := (Array.getElem?_eq_some_iff.1 h).1
theorem Dk3.c0 {t : TypeId} {W : World} {b : Nat} {x y z : Value} (h : Dk3 t W b x y z) : W.cell? ⟨b, 0, none⟩ = some x := by simp [World.cell?, show W.heap[b]? = _ from h]
theorem Dk3.c1 {t : TypeId} {W : World} {b : Nat} {x y z : Value} (h : Dk3 t W b x y z) : W.cell? ⟨b, 1, none⟩ = some y := by simp [World.cell?, show W.heap[b]? = _ from h]
theorem Dk3.c2 {t : TypeId} {W : World} {b : Nat} {x y z : Value} (h : Dk3 t W b x y z) : W.cell? ⟨b, 2, none⟩ = some z := by simp [World.cell?, show W.heap[b]? = _ from h]
theorem Dk3.fz {t : TypeId} {W : World} {b : Nat} {x y z : Value} (h : Dk3 t W b x y z) (j : Nat) : W.frozen? ⟨b, j, none⟩ = false := by simp [World.frozen?, show W.heap[b]? = _ from h]
theorem Dk3.later {W W' : World} {t : TypeId} {b : Nat} {x y z : Value} (h : Dk3 t W b x y z) (k : Below W.heap.size W W') : Dk3 t W' b x y z := (k.block _ h.lt).trans h

theorem Dk3.all3 {t : TypeId} {W : World} {b : Nat} {x y z : Value} (h : Dk3 t W b x y z) : W.cell? ⟨b, 0, none⟩ = some x ∧ W.cell? ⟨b, 1, none⟩ = some y ∧ W.cell? ⟨b, 2, none⟩ = some z := ⟨h.c0, h.c1, h.c2⟩
theorem Dk3.other {t : TypeId} {W : World} {b : Nat} {x y z : Value} (h : Dk3 t W b x y z) {b' j : Nat} (hne : b ≠ b') (u : Value) : Dk3 t (W.setCell ⟨b', j, none⟩ u) b x y z := (Below.heap_setCell _ _ _ b (fun e => hne (by rw [e]))).trans h
theorem Dk3.seta {t : TypeId} {W : World} {b : Nat} {x y z : Value} (h : Dk3 t W b x y z) (p : Value) : Dk3 t (W.setCell ⟨b, 0, none⟩ p) b p y z := by
  obtain ⟨hlt, hk⟩ := Array.getElem?_eq_some_iff.1 h
  show (W.heap.modify b _)[b]? = _
  rw [Array.getElem?_eq_getElem (by rw [Array.size_modify]; exact hlt), Array.getElem_modify_self, hk]
  rfl
theorem Dk3.setb {t : TypeId} {W : World} {b : Nat} {x y z : Value} (h : Dk3 t W b x y z) (p : Value) : Dk3 t (W.setCell ⟨b, 1, none⟩ p) b x p z := by
  obtain ⟨hlt, hk⟩ := Array.getElem?_eq_some_iff.1 h
  show (W.heap.modify b _)[b]? = _
  rw [Array.getElem?_eq_getElem (by rw [Array.size_modify]; exact hlt), Array.getElem_modify_self, hk]
  rfl
theorem Dk3.setc {t : TypeId} {W : World} {b : Nat} {x y z : Value} (h : Dk3 t W b x y z) (p : Value) : Dk3 t (W.setCell ⟨b, 2, none⟩ p) b x y p := by
  obtain ⟨hlt, hk⟩ := Array.getElem?_eq_some_iff.1 h
  show (W.heap.modify b _)[b]? = _
  rw [Array.getElem?_eq_getElem (by rw [Array.size_modify]; exact hlt), Array.getElem_modify_self, hk]
  rfl
theorem Dk3.set3 {t : TypeId} {W : World} {b : Nat} {x y z : Value} (h : Dk3 t W b x y z) (p q r : Value) : Dk3 t (((W.setCell ⟨b, 0, none⟩ p).setCell ⟨b, 1, none⟩ q).setCell ⟨b, 2, none⟩ r) b p q r := ((h.seta p).setb q).setc r
theorem Dk3.far3 {t : TypeId} {W : World} {b b2 : Nat} {x y z : Value} (h : Dk3 t W b x y z) (hne : b ≠ b2) (p q r : Value) :
    (((W.setCell ⟨b2, 0, none⟩ p).setCell ⟨b2, 1, none⟩ q).setCell ⟨b2, 2, none⟩ r).cell? ⟨b, 0, none⟩ = some x ∧ (((W.setCell ⟨b2, 0, none⟩ p).setCell ⟨b2, 1, none⟩ q).setCell ⟨b2, 2, none⟩ r).cell? ⟨b, 1, none⟩ = some y ∧ (((W.setCell ⟨b2, 0, none⟩ p).setCell ⟨b2, 1, none⟩ q).setCell ⟨b2, 2, none⟩ r).cell? ⟨b, 2, none⟩ = some z :=
  (((h.other hne p).other hne q).other hne r).all3
theorem Dk3.new (t : TypeId) (W : World) (x y z : Value) : Dk3 t (W.alloc (.cells #[x, y, z] t)) W.heap.size x y z := World.alloc_heap_new W _
theorem Dk3.grown {W W' : World} {t : TypeId} {b : Nat} {x y z : Value} {r : Option Nat} (h : Dk3 t W b x y z) (k : W.grownBy W' r) (hr : some b ≠ r) : Dk3 t W' b x y z := (k.block b h.lt hr).trans h

theorem open_desk {H : Type} {enc : TypeId × Value → H} {P : Program} {w : World} {base : Nat} {held : Bool} {t s m e : TypeId} {f0 f1 f2 g0 : Field} {cs : Array Value} {d : DataW H} {p : List MemPlace}
    (ht : P.underlying t = some (.struct #[f0, f1, f2])) (hm : P.underlying m = some (.struct #[g0])) (he : P.underlying e = some (.slice s)) (hs : P.underlying s = some .string)
    (h0 : (f0.type, f0.offset) = (s, 0)) (h1 : (f1.type, f1.offset) = (s, 1)) (h2 : (f2.type, f2.offset) = (m, 2)) (hg : (g0.type, g0.offset) = (e, 0)) (c1 : P.cellsOf e = 1) (c2 : P.cellsOf s = 1) (c3 : P.cellsOf m = 1) (hc : cs.size = 3)
    (h : DataW.Trod enc P w base (fun _ => true) held t (.agg cs) d p) : ∃ x y a len cap zs, cs = #[.string x, .string y, .slice a len cap] ∧ x.size ≤ maxLen ∧ y.size ≤ maxLen ∧ IsRowS w a len cap zs := by
  obtain ⟨fuel, hf⟩ := h
  obtain ⟨xs, n, _, _, hl, hlen, hfs⟩ := DataW.trod_struct ht hf
  obtain ⟨l⟩ := cs
  simp only [Prod.mk.injEq] at h0 h1 h2 hg
  match l, hc, xs, hlen with
  | [u0, u1, u2], _, [y0, y1, y2], _ =>
    have q0 : DataW.trod enc P w base (fun _ => true) held n s [u0] = some y0 := by have := hfs 0 f0 rfl; rw [h0.1, h0.2, c2] at this; simpa [Value.cells] using this
    have q1 : DataW.trod enc P w base (fun _ => true) held n s [u1] = some y1 := by have := hfs 1 f1 rfl; rw [h1.1, h1.2, c2] at this; simpa [Value.cells] using this
    have q2 : DataW.trod enc P w base (fun _ => true) held n m [u2] = some y2 := by have := hfs 2 f2 rfl; rw [h2.1, h2.2, c3] at this; simpa [Value.cells] using this
    obtain ⟨x, hx, _, sx⟩ := DataW.trod_string hs q0
    obtain ⟨y, hy, _, sy⟩ := DataW.trod_string hs q1
    obtain ⟨z0, k, _, _, hz⟩ := trod_struct1 hm q2
    rw [hg.1, hg.2, c1] at hz
    have hz' : DataW.trod enc P w base (fun _ => true) held k e [u2] = some z0 := by simpa using hz
    injection hx with hx
    injection hy with hy
    subst hx hy
    rcases open_strings he hs c2 hz' with ⟨hcs, _⟩ | ⟨ad, len, cap, ss, hcs, _, hl2, hm2, hz2, _, hcell, hsz⟩
    · injection hcs with h3
      subst h3
      exact ⟨x, y, none, 0, 0, [], rfl, sx, sy, .inl ⟨rfl, rfl, rfl, rfl⟩⟩
    · injection hcs with h3
      subst h3
      exact ⟨x, y, some ad, len, cap, ss, rfl, sx, sy, .inr ⟨ad, rfl, hl2, hm2, by simpa using hz2, hcell, hsz⟩⟩

abbrev dkI : TypeId := 26
/-- What the weighing of a desk comes to. -/
def SzDesk (x y : ByteArray) (len : Nat) (zs : List ByteArray) (w : World) (e : Ending) (w' : World) : Prop :=
  ∃ r : Int, e = .returned (.int .i64 r) ∧ Below w.heap.size w w' ∧ (r = -1 ∨ 0 ≤ r ∧ x.size ≤ 1048576 ∧ y.size ≤ 1048576 ∧ len ≤ 1048576 ∧ ∀ s ∈ zs.take len, s.size ≤ 1048576)

set_option maxRecDepth 100000 in
set_option maxHeartbeats 1000000 in
theorem eqD_yes (B1 B2 : Nat) (x y : ByteArray) (v1 v2 : Value) (L : List ByteArray) (w : World) (h1 : OwnS w B1 v1 L) (h2 : OwnS w B2 v2 L) :
    Calls Try.prog 9 #[.agg #[.string x, .string y, v1], .agg #[.string x, .string y, v2]] w fun e w' => e = .returned (.bool true) ∧ Below w.heap.size w w' := by
  have H1 := Lib.hid h1
  have H2 := Lib.hid h2
  clear h1 h2
  go_enter Try.func9, Try.ntmps9
  go_wp2_with fail
  have B2' : Below w.heap.size w ((w.alloc (.cells #[.string x, .string y, v1] dkI)).alloc (.cells #[.string x, .string y, v2] dkI)) := (Below.new _ _).alloc (by simp) _
  refine (eqM_yes _ _ v1 v2 L _ (H1.out.below B2') (H2.out.below B2')).mono ?_
  rintro e w1 ⟨rfl, b1⟩
  go_wp2_with fail
  go_ret
  exact ⟨rfl, B2'.then b1⟩

set_option maxRecDepth 100000 in
theorem markD (B : Nat) (x y : ByteArray) (v : Value) (L : List ByteArray) (m : Int) (w : World) (h : OwnS w B v L) (m0 : 0 < m) (m1 : m ≤ 1100000) (hl : L.length ≤ 1100000) :
    Calls Try.prog 10 #[.agg #[.string x, .string y, v], .int .i64 m] w fun e w' => e = .returned (.int .i64 (m + L.length)) ∧ OwnS w' B v (marksS m.toNat L.length) ∧ w.grownBy w' v.ownBlock := by
  have H := Lib.hid h
  clear h
  go_enter Try.func10, Try.ntmps10
  go_wp2_with fail
  refine (markM _ v L m _ (H.out.below (Below.new _ _)) (by omega) (by omega) hl).mono ?_
  rintro e w1 ⟨rfl, o1, g1⟩
  have g2 := (World.grownBy_alloc w (.cells #[.string x, .string y, v] dkI) v.ownBlock).trans g1
  have G2 := Lib.hid g2
  have O1 := Lib.hid o1
  clear g1 g2 o1
  go_wp2_with fail
  go_ret
  exact ⟨rfl, O1.out, G2.out⟩

set_option maxRecDepth 100000 in
theorem heldD (B : Nat) (x y : ByteArray) (v : Value) (n : Nat) (m : Nat) (w : World) (h : OwnS w B v (marksS m n)) (m0 : 0 < m) (m1 : m ≤ 1100000) (hl : n ≤ 1100000) :
    Calls Try.prog 11 #[.agg #[.string x, .string y, v], .int .i64 (m : Int)] w fun e w' => e = .returned (.int .i64 ((m : Int) + n)) ∧ Below w.heap.size w w' := by
  have H := Lib.hid h
  clear h
  go_enter Try.func11, Try.ntmps11
  go_wp2_with fail
  refine (heldM _ v n m _ (H.out.below (Below.new _ _)) m0 m1 hl).mono ?_
  rintro e w1 ⟨rfl, b1⟩
  have hz : ¬ ((m : Int) + n < 0) := by omega
  have B1 := (Below.new _ _).then b1
  have HB := Lib.hid B1
  clear b1 B1
  go_wp2_with fail
  go_ret
  exact ⟨rfl, HB.out⟩

end Go.Proofs.Ytfipbnognjepkaa
