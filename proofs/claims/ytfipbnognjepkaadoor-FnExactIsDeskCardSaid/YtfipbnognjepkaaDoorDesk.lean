/- A desk: a struct of two texts and a list of texts: weighed, copied, compared, marked. -/
import Derived.Test.YtfipbnognjepkaaDoorToS
namespace Go.Proofs.YtfipbnognjepkaaDoor
set_option linter.unusedVariables false
set_option linter.unusedSimpArgs false
open Go.RowKit Go.ChangeShapes Go.WideShapes

def Dk3 (t : TypeId) (W : World) (b : Nat) (x y z : Value) : Prop := W.heap[b]? = some (.cells #[x, y, z] t (0, 0))
theorem Dk3.lt {t : TypeId} {W : World} {b : Nat} {x y z : Value} (h : Dk3 t W b x y z) : b < W.heap.size := (Array.getElem?_eq_some_iff.1 h).1
theorem Dk3.c0 {t : TypeId} {W : World} {b : Nat} {x y z : Value} (h : Dk3 t W b x y z) : W.cell? ⟨b, 0, none⟩ = some x := by simp [World.cell?, show W.heap[b]? = _ from h]
theorem Dk3.c1 {t : TypeId} {W : World} {b : Nat} {x y z : Value} (h : Dk3 t W b x y z) : W.cell? ⟨b, 1, none⟩ = some y := by simp [World.cell?, show W.heap[b]? = _ from h]
theorem Dk3.c2 {t : TypeId} {W : World} {b : Nat} {x y z : Value} (h : Dk3 t W b x y z) : W.cell? ⟨b, 2, none⟩ = some z := by simp [World.cell?, show W.heap[b]? = _ from h]
theorem Dk3.fz {t : TypeId} {W : World} {b : Nat} {x y z : Value} (h : Dk3 t W b x y z) (j : Nat) : W.frozen? ⟨b, j, none⟩ = false := by simp [World.frozen?, show W.heap[b]? = _ from h]
theorem Dk3.later {W W' : World} {t : TypeId} {b : Nat} {x y z : Value} (h : Dk3 t W b x y z) (k : Below W.heap.size W W') : Dk3 t W' b x y z := (k.block _ h.lt).trans h

theorem Dk3.all3 {t : TypeId} {W : World} {b : Nat} {x y z : Value} (h : Dk3 t W b x y z) : W.cell? ⟨b, 0, none⟩ = some x ∧ W.cell? ⟨b, 1, none⟩ = some y ∧ W.cell? ⟨b, 2, none⟩ = some z := ⟨h.c0, h.c1, h.c2⟩
theorem Dk3.other {t : TypeId} {W : World} {b : Nat} {x y z : Value} (h : Dk3 t W b x y z) {b' j : Nat} (hne : b ≠ b') (u : Value) : Dk3 t (W.setCell ⟨b', j, none⟩ u) b x y z := (Below.heap_setCell _ _ _ b (fun e => hne (by rw [e]))).trans h
theorem Dk3.seta {t : TypeId} {W : World} {b : Nat} {x y z : Value} (h : Dk3 t W b x y z) (p : Value) : Dk3 t (W.setCell ⟨b, 0, none⟩ p) b p y z := by
  obtain ⟨hlt, hk⟩ := Array.getElem?_eq_some_iff.1 h
  show (W.heap.modify b _)[b]? = _
  rw [Array.getElem?_eq_getElem (by rw [Array.size_modify]; exact hlt), Array.getElem_modify_self, hk]
  rfl
theorem Dk3.setb {t : TypeId} {W : World} {b : Nat} {x y z : Value} (h : Dk3 t W b x y z) (p : Value) : Dk3 t (W.setCell ⟨b, 1, none⟩ p) b x p z := by
  obtain ⟨hlt, hk⟩ := Array.getElem?_eq_some_iff.1 h
  show (W.heap.modify b _)[b]? = _
  rw [Array.getElem?_eq_getElem (by rw [Array.size_modify]; exact hlt), Array.getElem_modify_self, hk]
  rfl
theorem Dk3.setc {t : TypeId} {W : World} {b : Nat} {x y z : Value} (h : Dk3 t W b x y z) (p : Value) : Dk3 t (W.setCell ⟨b, 2, none⟩ p) b x y p := by
  obtain ⟨hlt, hk⟩ := Array.getElem?_eq_some_iff.1 h
  show (W.heap.modify b _)[b]? = _
  rw [Array.getElem?_eq_getElem (by rw [Array.size_modify]; exact hlt), Array.getElem_modify_self, hk]
  rfl
theorem Dk3.set3 {t : TypeId} {W : World} {b : Nat} {x y z : Value} (h : Dk3 t W b x y z) (p q r : Value) : Dk3 t (((W.setCell ⟨b, 0, none⟩ p).setCell ⟨b, 1, none⟩ q).setCell ⟨b, 2, none⟩ r) b p q r := ((h.seta p).setb q).setc r
theorem Dk3.far3 {t : TypeId} {W : World} {b b2 : Nat} {x y z : Value} (h : Dk3 t W b x y z) (hne : b ≠ b2) (p q r : Value) :
    (((W.setCell ⟨b2, 0, none⟩ p).setCell ⟨b2, 1, none⟩ q).setCell ⟨b2, 2, none⟩ r).cell? ⟨b, 0, none⟩ = some x ∧ (((W.setCell ⟨b2, 0, none⟩ p).setCell ⟨b2, 1, none⟩ q).setCell ⟨b2, 2, none⟩ r).cell? ⟨b, 1, none⟩ = some y ∧ (((W.setCell ⟨b2, 0, none⟩ p).setCell ⟨b2, 1, none⟩ q).setCell ⟨b2, 2, none⟩ r).cell? ⟨b, 2, none⟩ = some z :=
  (((h.other hne p).other hne q).other hne r).all3
theorem Dk3.new (t : TypeId) (W : World) (x y z : Value) : Dk3 t (W.alloc (.cells #[x, y, z] t)) W.heap.size x y z := World.alloc_heap_new W _
theorem Dk3.grown {W W' : World} {t : TypeId} {b : Nat} {x y z : Value} {r : Option Nat} (h : Dk3 t W b x y z) (k : W.grownBy W' r) (hr : some b ≠ r) : Dk3 t W' b x y z := (k.block b h.lt hr).trans h

theorem open_desk {H : Type} {enc : TypeId × Value → H} {P : Program} {w : World} {base : Nat} {held : Bool} {t s m e : TypeId} {f0 f1 f2 g0 : Field} {cs : Array Value} {d : DataW H} {p : List MemPlace}
    (ht : P.underlying t = some (.struct #[f0, f1, f2])) (hm : P.underlying m = some (.struct #[g0])) (he : P.underlying e = some (.slice s)) (hs : P.underlying s = some .string)
    (h0 : (f0.type, f0.offset) = (s, 0)) (h1 : (f1.type, f1.offset) = (s, 1)) (h2 : (f2.type, f2.offset) = (m, 2)) (hg : (g0.type, g0.offset) = (e, 0)) (c1 : P.cellsOf e = 1) (c2 : P.cellsOf s = 1) (c3 : P.cellsOf m = 1) (hc : cs.size = 3)
    (h : DataW.Trod enc P w base (fun _ => true) held t (.agg cs) d p) : ∃ x y a len cap zs, cs = #[.string x, .string y, .slice a len cap] ∧ x.size ≤ maxLen ∧ y.size ≤ maxLen ∧ IsRowS w a len cap zs := by
  obtain ⟨fuel, hf⟩ := h
  obtain ⟨xs, n, _, _, hl, hlen, hfs⟩ := DataW.trod_struct ht hf
  obtain ⟨l⟩ := cs
  simp only [Prod.mk.injEq] at h0 h1 h2 hg
  match l, hc, xs, hlen with
  | [u0, u1, u2], _, [y0, y1, y2], _ =>
    have q0 : DataW.trod enc P w base (fun _ => true) held n s [u0] = some y0 := by have := hfs 0 f0 rfl; rw [h0.1, h0.2, c2] at this; simpa [Value.cells] using this
    have q1 : DataW.trod enc P w base (fun _ => true) held n s [u1] = some y1 := by have := hfs 1 f1 rfl; rw [h1.1, h1.2, c2] at this; simpa [Value.cells] using this
    have q2 : DataW.trod enc P w base (fun _ => true) held n m [u2] = some y2 := by have := hfs 2 f2 rfl; rw [h2.1, h2.2, c3] at this; simpa [Value.cells] using this
    obtain ⟨x, hx, _, sx⟩ := DataW.trod_string hs q0
    obtain ⟨y, hy, _, sy⟩ := DataW.trod_string hs q1
    obtain ⟨z0, k, _, _, hz⟩ := trod_struct1 hm q2
    rw [hg.1, hg.2, c1] at hz
    have hz' : DataW.trod enc P w base (fun _ => true) held k e [u2] = some z0 := by simpa using hz
    injection hx with hx
    injection hy with hy
    subst hx hy
    rcases open_strings he hs c2 hz' with ⟨hcs, _⟩ | ⟨ad, len, cap, ss, hcs, _, hl2, hm2, hz2, _, hcell, hsz⟩
    · injection hcs with h3
      subst h3
      exact ⟨x, y, none, 0, 0, [], rfl, sx, sy, .inl ⟨rfl, rfl, rfl, rfl⟩⟩
    · injection hcs with h3
      subst h3
      exact ⟨x, y, some ad, len, cap, ss, rfl, sx, sy, .inr ⟨ad, rfl, hl2, hm2, by simpa using hz2, hcell, hsz⟩⟩

abbrev dkL : TypeId := 26
abbrev dkI : TypeId := 31
/-- What the weighing of a desk comes to. -/
def SzDesk (x y : ByteArray) (len : Nat) (zs : List ByteArray) (w : World) (e : Ending) (w' : World) : Prop :=
  ∃ r : Int, e = .returned (.int .i64 r) ∧ Below w.heap.size w w' ∧ (r = -1 ∨ 0 ≤ r ∧ x.size ≤ 1048576 ∧ y.size ≤ 1048576 ∧ len ≤ 1048576 ∧ ∀ s ∈ zs.take len, s.size ≤ 1048576)

set_option maxRecDepth 100000 in
set_option maxHeartbeats 1000000 in
theorem szD_any (x y : ByteArray) (a : Option Addr) (len cap : Nat) (zs : List ByteArray) (w : World) (h : IsRowS w a len cap zs) (sx : x.size ≤ maxLen) (sy : y.size ≤ maxLen) :
    Calls Tryd.prog 8 #[.agg #[.string x, .string y, .slice a len cap], .int .i64 1048576] w (SzDesk x y len zs w) := by
  have H := Lib.hid h
  clear h
  unfold maxLen at sx sy
  have B0 : Below w.heap.size w (w.alloc (.cells #[.string x, .string y, .slice a len cap] dkL)) := Below.new _ _
  by_cases hx : (1048576 : Int) - (x.size : Int) < 0
  · go_enter Tryd.func8, Tryd.ntmps8
    go_wp2_with fail
    go_ret
    exact ⟨-1, rfl, B0, .inl rfl⟩
  · by_cases hy : (1048576 : Int) - (x.size : Int) - (y.size : Int) < 0
    · go_enter Tryd.func8, Tryd.ntmps8
      go_wp2_with fail
      go_ret
      exact ⟨-1, rfl, B0, .inl rfl⟩
    · have CM := Lib.hid (szM_any a len cap zs ((1048576 : Int) - (x.size : Int) - (y.size : Int)) _ (H.out.below B0) (by omega) (by omega))
      go_enter Tryd.func8, Tryd.ntmps8
      go_wp2_with fail
      refine CM.out.mono ?_
      rintro e w1 ⟨r, rfl, b1, hr⟩
      have HR := Lib.hid hr
      rcases hr with rfl | ⟨h1, h2, h3⟩
      · go_wp2_with fail
        go_ret
        exact ⟨-1, rfl, B0.then b1, .inl rfl⟩
      · have hn : ¬ r < 0 := by omega
        clear h3
        go_wp2_with fail
        go_ret
        refine ⟨r, rfl, B0.then b1, .inr ⟨h1, by omega, by omega, by omega, fun s hs => ?_⟩⟩
        rcases HR.out with h | ⟨_, _, h⟩
        · omega
        · have := h s hs; omega

set_option maxRecDepth 100000 in
set_option maxHeartbeats 1000000 in
theorem toD_any (x y : ByteArray) (a : Option Addr) (len cap : Nat) (zs : List ByteArray) (w : World) (h : IsRowS w a len cap zs) (hl : len ≤ 1048576) :
    Calls Tryd.prog 10 #[.agg #[.string x, .string y, .slice a len cap]] w fun e w' => ∃ p c, e = .returned (.agg #[.string x, .string y, .slice p ((zs.take len).map lts).length c]) ∧ OwnS w' w.heap.size (.slice p ((zs.take len).map lts).length c) (((zs.take len).map lts).map bt) ∧ Below w.heap.size w w' := by
  have ts := fun w' (b : Below w.heap.size w w') => toM_any a len cap zs w' (h.below b) hl
  generalize (zs.take len).map lts = I at ts ⊢
  have TS := Lib.hid ts
  clear h ts
  go_enter Tryd.func10, Tryd.ntmps10
  go_wp2_with fail
  obtain ⟨W0, hW0⟩ : ∃ W0 : World, W0 = ((w.alloc (.cells #[.string x, .string y, .slice a len cap] dkL)).alloc (.cells #[.string ⟨#[]⟩, .string ⟨#[]⟩, .slice none 0 0] dkI)).alloc (.cells #[.string x, .string y, .slice none 0 0] dkI) := ⟨_, rfl⟩
  have q2 : Dk3 dkI W0 (w.heap.size + 1) (.string ⟨#[]⟩) (.string ⟨#[]⟩) (.slice none 0 0) := by
    have := Dk3.new dkI (w.alloc (.cells #[.string x, .string y, .slice a len cap] dkL)) (.string ⟨#[]⟩) (.string ⟨#[]⟩) (.slice none 0 0)
    rw [World.size_alloc] at this
    rw [hW0]
    exact this.later (Below.new _ _)
  have q3 : Dk3 dkI W0 (w.heap.size + 1 + 1) (.string x) (.string y) (.slice none 0 0) := by
    have := Dk3.new dkI ((w.alloc (.cells #[.string x, .string y, .slice a len cap] dkL)).alloc (.cells #[.string ⟨#[]⟩, .string ⟨#[]⟩, .slice none 0 0] dkI)) (.string x) (.string y) (.slice none 0 0)
    simp only [World.size_alloc] at this
    rw [hW0]
    exact this
  have B0 : Below w.heap.size w W0 := by rw [hW0]; exact ((Below.new _ _).alloc (by simp) _).alloc (by simp; omega) _
  have hz0 : W0.heap.size = w.heap.size + 1 + 1 + 1 := by rw [hW0]; simp
  have hW1 := hW0
  simp only [dkL, dkI] at hW1
  rw [← hW1]
  have HZ := Lib.hid hz0
  clear hW0 hW1 hz0
  refine (TS.out _ B0).mono ?_
  rintro e w1 ⟨p, c, rfl, o1, b1⟩
  generalize hn : I.length = n at *
  have HN := Lib.hid hn
  clear hn
  have r2 := q2.later b1
  have r3 := q3.later b1
  have B1 := B0.then b1
  have k0 := r3.c0
  have k1 := r3.c1
  have k2 := r3.c2
  have f0 := r3.fz 0
  have f1 := r3.fz 1
  have f2 := r3.fz 2
  have m0 := r2.c0
  have m1 := r2.c1
  have m2 := r2.c2
  have n0 := r2.fz 0
  have n1 := r2.fz 1
  have n2 := r2.fz 2
  have l3 := r3.lt
  have r3' := r3.setc (.slice p n c)
  have r2' := (r2.other (b' := w.heap.size + 1 + 1) (j := 2) (by omega) (.slice p n c)).set3 (.string x) (.string y) (.slice p n c)
  have HO : Hid (OwnS ((((w1.setCell ⟨w.heap.size + 1 + 1, 2, none⟩ (.slice p n c)).setCell ⟨w.heap.size + 1, 0, none⟩ (.string x)).setCell ⟨w.heap.size + 1, 1, none⟩ (.string y)).setCell ⟨w.heap.size + 1, 2, none⟩ (.slice p n c)) w.heap.size (.slice p n c) (I.map bt)) := Lib.hid (by
    have hz := HZ.out
    have hlt := o1.lt
    refine own_base (B := W0.heap.size) ?_ B0.size
    have key : ∀ (W : World) (b j : Nat) (u : Value), b < W0.heap.size → OwnS W W0.heap.size (.slice p n c) (I.map bt) → OwnS (W.setCell ⟨b, j, none⟩ u) W0.heap.size (.slice p n c) (I.map bt) := by
      intro W b j u hb ho
      refine World.ownsRow.kept ho (grown_set (grown_refl W (some b)) j u) ?_
      cases hv : (Value.slice p n c).ownBlock with
      | none => exact .inl rfl
      | some k => refine .inr fun c => ?_; have := (hlt k hv).1; injection c with c2; omega
    exact key _ _ _ _ (by omega) (key _ _ _ _ (by omega) (key _ _ _ _ (by omega) (key _ _ _ _ (by omega) o1))))
  have BB : Below w.heap.size w ((((w1.setCell ⟨w.heap.size + 1 + 1, 2, none⟩ (.slice p n c)).setCell ⟨w.heap.size + 1, 0, none⟩ (.string x)).setCell ⟨w.heap.size + 1, 1, none⟩ (.string y)).setCell ⟨w.heap.size + 1, 2, none⟩ (.slice p n c)) :=
    (((B1.setCell (p := ⟨w.heap.size + 1 + 1, 2, none⟩) (by show _ ≤ w.heap.size + 1 + 1; omega) _).setCell (p := ⟨w.heap.size + 1, 0, none⟩) (by show _ ≤ w.heap.size + 1; omega) _).setCell (p := ⟨w.heap.size + 1, 1, none⟩) (by show _ ≤ w.heap.size + 1; omega) _).setCell (p := ⟨w.heap.size + 1, 2, none⟩) (by show _ ≤ w.heap.size + 1; omega) _
  have HBB := Lib.hid BB
  have R2 := Lib.hid r2'
  have e0 := r3'.c0
  have e1 := r3'.c1
  have e2 := r3'.c2
  clear o1 b1 B1 BB r3' r2' q2 q3 r2 r3
  go_wp2_with fail
  refine bodyPost_ret (v := .agg #[.string x, .string y, .slice p n c]) ?_ rfl ⟨p, c, by rw [HN.out], by rw [HN.out]; exact HO.out, HBB.out⟩
  have h0 := R2.out.c0
  have h1 := R2.out.c1
  have h2 := R2.out.c2
  simp [results, Tryd.results10, go_sem, h0, h1, h2]

set_option maxRecDepth 100000 in
set_option maxHeartbeats 1000000 in
theorem eqD_yes (B1 B2 : Nat) (x y : ByteArray) (v1 v2 : Value) (L : List ByteArray) (w : World) (h1 : OwnS w B1 v1 L) (h2 : OwnS w B2 v2 L) :
    Calls Tryd.prog 12 #[.agg #[.string x, .string y, v1], .agg #[.string x, .string y, v2]] w fun e w' => e = .returned (.bool true) ∧ Below w.heap.size w w' := by
  have H1 := Lib.hid h1
  have H2 := Lib.hid h2
  clear h1 h2
  go_enter Tryd.func12, Tryd.ntmps12
  go_wp2_with fail
  have B2' : Below w.heap.size w ((w.alloc (.cells #[.string x, .string y, v1] dkI)).alloc (.cells #[.string x, .string y, v2] dkI)) := (Below.new _ _).alloc (by simp) _
  refine (eqM_yes _ _ v1 v2 L _ (H1.out.below B2') (H2.out.below B2')).mono ?_
  rintro e w1 ⟨rfl, b1⟩
  go_wp2_with fail
  go_ret
  exact ⟨rfl, B2'.then b1⟩

end Go.Proofs.YtfipbnognjepkaaDoor
