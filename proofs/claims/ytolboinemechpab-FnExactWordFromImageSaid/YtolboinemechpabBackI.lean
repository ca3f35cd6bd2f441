/- Words found from their images: the program. -/
import Derived.Test.YtolboinemechpabBackPlain
import Derived.Test.YtolboinemechpabImgS
import Derived.Test.YtolboinemechpabPut
import Derived.Maps.OwnSet
import Derived.Maps.OwnRows
import Derived.Maps.Views
import Derived.Test.YtolboinemechpabV5
import Derived.IntWalk
import Derived.Deep.LoopGhost
import Derived.Test.YtolboinemechpabWordsPlain
import Derived.Test.YtolboinemechpabPerPlain
import Derived.Test.YtolboinemechpabShelf
namespace Go.Proofs.Ytolboinemechpab
set_option linter.unusedVariables false
set_option linter.unusedSimpArgs false
open Go.RowKit Go.Maps

def kI (k : Nat) : Lit := .int .i64 (k : Int)
/-- A map from numbers to texts says what a function says. -/
def Says (D : DataW Unit) (f : Nat → Option (List UInt8)) : Prop := IsMap D ∧ ∀ k, (f k = none → has D (kI k) = false) ∧ ∀ l, f k = some l → has D (kI k) = true ∧ ∀ z, D.atKey (kI k) z = .lit (.string l)
def setF2 (f : Nat → Option (List UInt8)) (k : Nat) (l : List UInt8) : Nat → Option (List UInt8) := fun j => if j = k then some l else f j
theorem says_none : Says (.map []) (fun _ => none) := ⟨isMap_empty, fun k => ⟨fun _ => rfl, fun l h => by cases h⟩⟩
theorem kI_ne {j k : Nat} (h : j ≠ k) : kI j ≠ kI k := fun e => by unfold kI at e; injection e with e1 e2; exact h (by omega)
theorem Says.put {D : DataW Unit} {f : Nat → Option (List UInt8)} (h : Says D f) (k : Nat) (l : List UInt8) : Says (D.put (kI k) (.lit (.string l))) (setF2 f k l) := by
  refine ⟨h.1.put _ _, fun j => ?_⟩
  unfold setF2
  by_cases e : j = k
  · subst e
    rw [if_pos rfl]
    refine ⟨fun h => (by cases h), fun l2 h2 => ?_⟩
    cases h2
    exact ⟨has_put_same h.1 (show WideAt.IsKeyLit (kI j) from trivial) _, fun z => atKey_put_same h.1 (show WideAt.IsKeyLit (kI j) from trivial) _ _⟩
  · rw [if_neg e]
    obtain ⟨h1, h2⟩ := h.2 j
    refine ⟨fun h => by rw [has_put_other (kI_ne e)]; exact h1 h, fun l2 h3 => ?_⟩
    obtain ⟨a, b⟩ := h2 l2 h3
    exact ⟨by rw [has_put_other (kI_ne e)]; exact a, fun z => by rw [atKey_put_other (kI_ne e)]; exact b z⟩
/-! ### The search at a place. -/
theorem bestTo_len (I : List (List UInt8)) (t : List UInt8) (D : Nat → Option (List UInt8)) (hD : ∀ k r, fitB I k t = true → D (I.getD k []).length = some r → r.length + 1 ≤ t.length) : ∀ n r, bestTo I t D n = some r → r.length ≤ t.length
  | 0, r, h => by cases h
  | n + 1, r, h => by
    rw [bestTo] at h
    have ih := bestTo_len I t D hD n
    cases e : fitB I n t with
    | false => rw [e] at h; exact ih r h
    | true =>
      cases e2 : D (I.getD n []).length with
      | none => rw [e, e2] at h; exact ih r h
      | some q =>
        rw [e, e2] at h
        dsimp only at h
        have h1 := hD n q e e2
        cases e3 : bestTo I t D n with
        | none => rw [e3] at h; simp only [better] at h; cases h; exact h1
        | some u =>
          rw [e3] at h
          simp only [better] at h
          split at h
          · cases h; exact h1
          · cases h; exact ih _ e3
theorem back_len (I : List (List UInt8)) : ∀ (f : Nat) (t r : List UInt8), back I f t = some r → r.length ≤ t.length
  | 0, t, r, h => by
    rw [back] at h
    split at h
    · cases h; exact Nat.zero_le _
    · cases h
  | f + 1, t, r, h => by
    rw [back] at h
    split at h
    · cases h; exact Nat.zero_le _
    · refine bestTo_len I t _ (fun k q hf hq => ?_) _ r h
      have := fit_len hf
      rw [if_neg (by omega)] at hq
      have := back_len I f _ q hq
      rw [List.length_drop] at this
      omega
theorem bk_len {I : List (List UInt8)} {l : List UInt8} {i : Nat} {r : List UInt8} (h : bk I l i = some r) : r.length ≤ l.length - i := by
  have := back_len I 60 _ r h
  rwa [List.length_drop] at this
theorem bkTo_len {I : List (List UInt8)} {l : List UInt8} {i n : Nat} {r : List UInt8} (h : bkTo I l i n = some r) : r.length ≤ l.length - i := by
  have := bestTo_len I (l.drop i) _ (fun k q hf hq => ?_) n r h
  · rwa [List.length_drop] at this
  · have h1 := fit_len hf
    rw [if_neg (by omega)] at hq
    have := bk_len hq
    rw [List.length_drop] at h1 ⊢
    omega
/-- What the map says at the place i, with the first j letters tried there. -/
def tabF (I : List (List UInt8)) (l : List UInt8) (i j : Nat) : Nat → Option (List UInt8) := fun p => if p = i then bkTo I l i j else if i < p ∧ p ≤ l.length then bk I l p else none
theorem tabF_here (I : List (List UInt8)) (l : List UInt8) (i j : Nat) : tabF I l i j i = bkTo I l i j := if_pos rfl
theorem tabF_same {I : List (List UInt8)} {l : List UInt8} {i j : Nat} (h : bkTo I l i (j + 1) = bkTo I l i j) : tabF I l i (j + 1) = tabF I l i j := by unfold tabF; rw [h]
theorem tabF_set {I : List (List UInt8)} {l : List UInt8} {i j : Nat} {r : List UInt8} (h : bkTo I l i (j + 1) = some r) : setF2 (tabF I l i j) i r = tabF I l i (j + 1) := by
  funext p
  unfold setF2 tabF
  by_cases e : p = i
  · rw [if_pos e, if_pos e, h]
  · rw [if_neg e, if_neg e, if_neg e]
/-- What it says before a place is tried. -/
def tabG (I : List (List UInt8)) (l : List UInt8) (g : Nat) : Nat → Option (List UInt8) := fun p => if g ≤ p ∧ p ≤ l.length then bk I l p else none
theorem tabG_first (I : List (List UInt8)) (l : List UInt8) : setF2 (fun _ => none) l.length [] = tabG I l l.length := by
  funext p
  unfold setF2 tabG
  by_cases e : p = l.length
  · rw [if_pos e, if_pos (by omega), e, bk_end]
  · rw [if_neg e, if_neg (by omega)]
theorem tabG_in (I : List (List UInt8)) (l : List UInt8) (i : Nat) : tabG I l (i + 1) = tabF I l i 0 := by
  funext p
  unfold tabG tabF
  by_cases e : p = i
  · rw [if_pos e, if_neg (by omega), bkTo_zero]
  · rw [if_neg e]; rfl
theorem tabG_out (I : List (List UInt8)) (l : List UInt8) (h60 : l.length ≤ 60) (i : Nat) (hi : i < l.length) : tabF I l i I.length = tabG I l i := by
  funext p
  unfold tabG tabF
  by_cases e : p = i
  · rw [if_pos e, if_pos (by omega), ← bk_step I l h60 i hi, e]
  · rw [if_neg e]
    by_cases e2 : i < p ∧ p ≤ l.length
    · rw [if_pos e2, if_pos (by omega)]
    · rw [if_neg e2, if_neg (by omega)]
theorem bk_cases (I : List (List UInt8)) (l : List UInt8) (h60 : l.length ≤ 60) (i j : Nat) (hi : i < l.length) :
    (tabF I l i j (i + (I.getD j []).length) = none ∧ bkTo I l i (j + 1) = bkTo I l i j) ∨
    ∃ r, tabF I l i j (i + (I.getD j []).length) = some r ∧ r.length ≤ 60 ∧
      ((Lib.hasPrefix (l.drop i) (I.getD j []) = false ∧ bkTo I l i (j + 1) = bkTo I l i j) ∨
       (Lib.hasPrefix (l.drop i) (I.getD j []) = true ∧
         ((∃ u, tabF I l i j i = some u ∧ u.length ≤ 60 ∧ ¬ r.length + 1 < u.length ∧ bkTo I l i (j + 1) = bkTo I l i j) ∨
          (tabF I l i j i = none ∧ bkTo I l i (j + 1) = some (letr j :: r)) ∨
          ∃ u, tabF I l i j i = some u ∧ u.length ≤ 60 ∧ r.length + 1 < u.length ∧ bkTo I l i (j + 1) = some (letr j :: r)))) := by
  have hlen : ∀ r, bkTo I l i j = some r → r.length ≤ 60 := fun r h => by have := bkTo_len h; omega
  have hpre : Lib.hasPrefix (l.drop i) (I.getD j []) = (I.getD j []).isPrefixOf (l.drop i) := rfl
  by_cases hz : (I.getD j []).length = 0
  · have hnil : I.getD j [] = [] := List.eq_nil_of_length_eq_zero hz
    have hf : fitB I j (l.drop i) = false := by unfold fitB; rw [hnil]; simp
    have hsame := bkTo_skip (I := I) (l := l) (i := i) (n := j) (.inl hf)
    rw [hz, Nat.add_zero, tabF_here]
    cases e : bkTo I l i j with
    | none => exact .inl ⟨rfl, by rw [hsame, e]⟩
    | some r => exact .inr ⟨r, rfl, hlen r e, .inr ⟨by rw [hpre, hnil]; rfl, .inl ⟨r, rfl, hlen r e, by omega, by rw [hsame, e]⟩⟩⟩
  · have hne : i + (I.getD j []).length ≠ i := by omega
    have hv : tabF I l i j (i + (I.getD j []).length) = if i + (I.getD j []).length ≤ l.length then bk I l (i + (I.getD j []).length) else none := by
      unfold tabF
      rw [if_neg hne]
      by_cases e : i + (I.getD j []).length ≤ l.length
      · rw [if_pos e, if_pos (by omega)]
      · rw [if_neg e, if_neg (by omega)]
    by_cases e : i + (I.getD j []).length ≤ l.length
    · rw [if_pos e] at hv
      rw [hv, tabF_here]
      cases e2 : bk I l (i + (I.getD j []).length) with
      | none => exact .inl ⟨rfl, bkTo_skip (.inr e2)⟩
      | some r =>
        refine .inr ⟨r, rfl, by have := bk_len e2; omega, ?_⟩
        rw [hpre]
        have hem : (I.getD j []).isEmpty = false := by
          cases e4 : I.getD j [] with
          | nil => rw [e4] at hz; simp at hz
          | cons c t => rfl
        cases e3 : (I.getD j []).isPrefixOf (l.drop i) with
        | false =>
          have hf : fitB I j (l.drop i) = false := by unfold fitB; rw [e3]; rfl
          exact .inl ⟨rfl, bkTo_skip (.inl hf)⟩
        | true =>
          have hf : fitB I j (l.drop i) = true := by unfold fitB; rw [e3, hem]; rfl
          have ht := bkTo_take hf e2
          refine .inr ⟨rfl, ?_⟩
          cases e5 : bkTo I l i j with
          | none => rw [e5] at ht; exact .inr (.inl ⟨rfl, ht⟩)
          | some u =>
            rw [e5] at ht
            simp only [better, List.length_cons] at ht
            by_cases e6 : r.length + 1 < u.length
            · rw [if_pos e6] at ht
              exact .inr (.inr ⟨u, rfl, hlen u e5, e6, ht⟩)
            · rw [if_neg e6] at ht
              exact .inl ⟨u, rfl, hlen u e5, e6, ht⟩
    · rw [if_neg e] at hv
      have hf : fitB I j (l.drop i) = false := by
        cases e7 : fitB I j (l.drop i) with
        | false => rfl
        | true => have := fit_len e7; rw [List.length_drop] at this; omega
      exact .inl ⟨hv, bkTo_skip (.inl hf)⟩

theorem slice_fromB (x : ByteArray) (n : Nat) (h : n ≤ x.size) (W : World) :
    (Instr.slice 9 (.string x) (some (.int .i64 (n : Int))) none none).run Try.prog W = .ok (.string (x.extract n x.size)) W := by
  have := run_slice_string_l (P := Try.prog) W 9 x Try.underlying9 .i64 (n : Int) (by omega) (by omega)
  simpa using this
def TabS (w : World) (b n : Nat) (f : Nat → Option (List UInt8)) : Prop := ∃ D, w.ownsMap Try.prog 3 (plainElem (H := Unit) Try.prog 9) b n D ∧ Says D f
set_option maxRecDepth 100000 in
theorem plainStr_inv {v : Value} {l : List UInt8} {ps : List MemPlace} (h : plainElem (H := Unit) Try.prog 9 v = some (.lit (.string l), ps)) : v = .string (bt l) := by
  unfold plainElem at h
  rw [Try.underlying9] at h
  cases v <;> simp at h
  obtain ⟨_, rfl, _⟩ := h
  exact congrArg Value.string (bt_lt _).symm
set_option maxRecDepth 100000 in
theorem keyI {k : Nat} (h : k ≤ 1000000) : keyOf Try.prog 3 (.int .i64 (k : Int)) = some (kI k) := by
  exact keyOf_int_mk Try.underlying3 (by simp [Lit.wf, IntKind.min, IntKind.max, IntKind.signed, IntKind.bits]; omega)
set_option maxRecDepth 100000 in
theorem TabS.yes {w : World} {b n : Nat} {f : Nat → Option (List UInt8)} (h : TabS w b n f) {k : Nat} (hk : k ≤ 1000000) {l : List UInt8} (e : f k = some l) :
    (Instr.lookup 107 (.map (some b)) (.int .i64 (k : Int)) true).run Try.prog w = .ok (.tuple #[.string (bt l), .bool true]) w := by
  obtain ⟨D, hown, hs⟩ := h
  obtain ⟨v, ps, hrun, hv⟩ := hown.look_ok (int_keyed Try.underlying3) Try.underlying107 (Try.zeroValue9 w) (plainElem_string (H := Unit) Try.underlying9 (s := ⟨#[]⟩) (by decide)) (keyI hk)
  obtain ⟨h1, h2⟩ := (hs.2 k).2 l e
  rw [h2] at hv
  rw [plainStr_inv hv, h1] at hrun
  exact hrun
set_option maxRecDepth 100000 in
theorem TabS.no {w : World} {b n : Nat} {f : Nat → Option (List UInt8)} (h : TabS w b n f) {k : Nat} (hk : k ≤ 1000000) (e : f k = none) :
    (Instr.lookup 107 (.map (some b)) (.int .i64 (k : Int)) true).run Try.prog w = .ok (.tuple #[.string ⟨#[]⟩, .bool false]) w := by
  obtain ⟨D, hown, hs⟩ := h
  obtain ⟨v, ps, hrun, hv⟩ := hown.look_ok (int_keyed Try.underlying3) Try.underlying107 (Try.zeroValue9 w) (plainElem_string (H := Unit) Try.underlying9 (s := ⟨#[]⟩) (by decide)) (keyI hk)
  have h1 := (hs.2 k).1 e
  rw [atKey_of_not_has h1] at hv
  rw [plainStr_inv (l := []) hv, h1] at hrun
  exact hrun
set_option maxRecDepth 100000 in
theorem TabS.put {w : World} {b n : Nat} {f : Nat → Option (List UInt8)} (h : TabS w b n f) {k : Nat} (hk : k ≤ 1000000) (hn : n < maxLen) (x : ByteArray) (hx : x.size ≤ maxLen) :
    ∃ w', (Instr.mapUpdate 107 (.map (some b)) (.int .i64 (k : Int)) (.string x)).run Try.prog w = .ok () w' ∧ TabS w' b (n + 1) (setF2 f k x.data.toList) ∧ w.grownBy w' (some b) := by
  obtain ⟨D, hown, hs⟩ := h
  obtain ⟨w', hrun, h1, h2⟩ := hown.update (int_keyed Try.underlying3) Try.underlying107 hn (keyI hk) (plainElem_string (H := Unit) Try.underlying9 hx)
  exact ⟨w', hrun, ⟨_, h1, hs.put k _⟩, h2⟩

set_option maxRecDepth 100000 in
set_option maxHeartbeats 2000000 in
theorem impl_WordFromImage_ok (B : Nat) (v : Value) (I : List (List UInt8)) (x : ByteArray) (w : World) (h : OwnS w B v (I.map bt)) (t : Tot I) (g : Mor I ∧ IsW x) (hf : Few I.length x) :
    Calls Try.prog 42 #[.agg #[v], .string x] w fun e w' => e = .returned (.tuple #[.string (backR I x).1, .int .i64 (backR I x).2]) ∧ Below w.heap.size w w' := by
  have hmm := @run_makeMap Try.prog
  have h1 := g.1.len1
  have h5 := g.1.len5
  have hx := g.2.size
  have hlx : (lts x).length = x.size := lt_len x
  have CC := Lib.hid (checkWord_is B v I x (w.alloc (.cells #[v] 53)) (h.below (Below.new _ _)) t (by unfold Go.maxLen; omega) 0 (mwC_ok g hf))
  obtain ⟨p, cap, rfl, hg, hc, cell⟩ := h.rowM (by omega)
  obtain ⟨R, hR⟩ : ∃ R, backR I x = R := ⟨_, rfl⟩
  have HR : Hid (backR I x = R) := Lib.hid hR
  rw [hR]
  have G := Lib.hid g
  have HF := Lib.hid hf
  have C := Lib.hid cell
  clear h t g hf cell hR
  go_enter Try.func42, Try.ntmps42
  go_wp2_with fail
  refine CC.out.mono ?_
  rintro e w1 ⟨rfl, b1⟩
  obtain ⟨w2, hrun, htab, hgr⟩ := TabS.put (n := 0) (f := fun _ => none) ⟨_, World.ownsMap_made w1 Try.prog 3 (plainElem (H := Unit) Try.prog 9), says_none⟩ (k := x.size) (by omega) (by decide) ⟨#[]⟩ (by decide)
  have Q1 : Boxed w1 w.heap.size 53 (.slice (some ⟨p, 0, none⟩) I.length cap) := boxed_later boxed_alone b1
  have BW1 : Below w.heap.size w w1 := (Below.new _ _).then b1
  have hz1 := BW1.size
  have hm1 : w.heap.size < w1.heap.size := Q1.lt
  have Q2 : Boxed w2 w.heap.size 53 (.slice (some ⟨p, 0, none⟩) I.length cap) := (Q1.alloc _).kept hgr (by intro e; injection e with e; omega)
  have BW2 : Below w.heap.size w w2 := (BW1.alloc hz1 _).grown hgr (by simp; omega) (fun k e => by cases e; omega)
  rw [show setF2 (fun _ => none) x.size (⟨#[]⟩ : ByteArray).data.toList = tabG I (lts x) x.size from by rw [← hlx]; exact tabG_first I (lts x)] at htab
  have hgm : w1.heap.size < w2.heap.size := by have := hgr.size; simp at this; omega
  clear hgr b1 Q1 BW1 CC
  go_wp2_with fail
  generalize w1.heap.size = M at *
  go_loopg [8] x.size (fun gg s8 wr => ∃ q : Nat, gg ≤ x.size ∧ s8 = .int .i64 ((gg : Int) - 1) ∧ q + 10 * gg ≤ 700 ∧ TabS wr M q (tabG I (lts x) gg) ∧ Boxed wr w.heap.size 53 (.slice (some ⟨p, 0, none⟩) I.length cap) ∧ Below w.heap.size w wr)
  case atStart => exact ⟨1, Nat.le_refl _, rfl, by omega, htab, Q2, BW2⟩
  case round =>
    clear htab Q2 BW2
    obtain ⟨q, hgx, rfl, hq, htab, QQ, hB⟩ := hrel
    have kq := QQ.cell
    by_cases hp : 0 < gk
    · obtain ⟨i, rfl⟩ : ∃ i, gk = i + 1 := ⟨gk - 1, by omega⟩
      have hi1 : ((i + 1 : Nat) : Int) - 1 = (i : Int) := by omega
      rw [hi1]
      rw [tabG_in] at htab
      clear hi1
      go_wp2_with fail
      go_loopw [37] (fun s37 wr2 => ∃ j q : Nat, j ≤ I.length ∧ s37 = .int .i64 (j : Int) ∧ q + 10 * (i + 1) ≤ 700 + j ∧ TabS wr2 M q (tabF I (lts x) i j) ∧ Boxed wr2 w.heap.size 53 (.slice (some ⟨p, 0, none⟩) I.length cap) ∧ Below w.heap.size w wr2)
        (fun s37 _ => I.length - (intOf s37).toNat)
      case atStart => exact ⟨0, q, Nat.zero_le _, rfl, by omega, htab, QQ, hB⟩
      case round =>
        clear htab QQ hB kq hq
        obtain ⟨j, q, hj, rfl, hq, htab, QQ, hB⟩ := hrel
        have kq := QQ.cell
        by_cases hpj : j < I.length
        · have kc : wr.cell? ⟨p, j, none⟩ = some (.string (bt (I[j]'hpj))) := by rw [(bcell hB).1 p j hg]; exact C.out j hpj
          have hz12 : (bt (I[j]'hpj)).size ≤ 12 := (G.out.1.im j hpj).1
          have hgd : I.getD j [] = I[j]'hpj := by simp [List.getD_eq_getElem?_getD, hpj]
          have HZ : Hid (I.getD j [] = (bt (I[j]'hpj)).data.toList) := Lib.hid (by rw [hgd]; exact (lt_bt _).symm)
          have hzl : (I.getD j []).length = (bt (I[j]'hpj)).size := by rw [hgd]; exact (bt_size _).symm
          have hcs := bk_cases I (lts x) (by omega) i j (by omega)
          rw [hzl] at hcs
          clear hzl hgd
          generalize bt (I[j]'hpj) = z at *
          have hjc : j < cap := by omega
          have hji : (j : Int) < (I.length : Int) := by omega
          have hbk := fun l => TabS.yes htab (k := i + z.size) (l := l) (by omega)
          have hno := TabS.no htab (k := i + z.size) (by omega)
          rw [Int.natCast_add] at hbk hno
          have hsl := fun W => slice_fromB x i (by omega) W
          have hse : (x.extract i x.size).data.toList = (lts x).drop i := bl_drop x i
          have hss : (x.extract i x.size).size ≤ 60 := by simp; omega
          have CP := fun W => Try.strings_HasPrefix (x.extract i x.size) z W
          rw [hse, ← HZ.out] at CP
          generalize x.extract i x.size = y at *
          rcases hcs with ⟨c1, c2⟩ | ⟨r, c1, hr, c3⟩
          · have hlk := hno c1
            rw [← tabF_same c2] at htab
            have HT := Lib.hid htab
            clear htab hbk hno c1 c2 CP
            go_wp2_with fail
            go_roundw
            case rel => exact ⟨j + 1, q, by omega, by go_num, by omega, HT.out, QQ, hB⟩
            case measure => simp [intOf]; omega
          · have hlk := hbk r c1
            have hrs : (bt r).size ≤ 60 := by rw [bt_size]; exact hr
            clear hbk hno c1
            rcases c3 with ⟨c4, c2⟩ | ⟨c4, ⟨u, c5, hu, hlt, c2⟩ | ⟨c5, c2⟩ | ⟨u, c5, hu, hlt, c2⟩⟩
            · rw [c4] at CP
              rw [← tabF_same c2] at htab
              have HT := Lib.hid htab
              clear htab c2
              generalize bt r = rr at *
              go_wp2_with fail
              refine (CP _).mono ?_
              rintro e w3 ⟨rfl, rfl⟩
              go_wp2_with fail
              go_roundw
              case rel => exact ⟨j + 1, q, by omega, by go_num, by omega, HT.out, QQ, hB⟩
              case measure => simp [intOf]; omega
            · rw [c4] at CP
              have hlk2 := TabS.yes htab (k := i) (by omega) c5
              have hus : (bt u).size ≤ 60 := by rw [bt_size]; exact hu
              have hltn : ¬ ((bt r).size : Int) + 1 < ((bt u).size : Int) := by rw [bt_size, bt_size]; omega
              rw [← tabF_same c2] at htab
              have HT := Lib.hid htab
              clear htab c2
              generalize bt r = rr at *
              generalize bt u = uu at *
              go_wp2_with fail
              refine (CP _).mono ?_
              rintro e w3 ⟨rfl, rfl⟩
              go_wp2_with fail
              go_roundw
              case rel => exact ⟨j + 1, q, by omega, by go_num, by omega, HT.out, QQ, hB⟩
              case measure => simp [intOf]; omega
            · rw [c4] at CP
              have hlk2 := TabS.no htab (k := i) (by omega) c5
              have he := encode_letter j (by omega)
              have hcv : ∀ W : World, (convert 21 9 (.int .i32 (97 + (j : Int)))).run Try.prog W = .ok (.string (lt1 j)) W := fun W => by
                rw [run_convert_int_string W _ _ _ _ (by rw [Try.underlying21]; rfl) Try.underlying9, he]
              have hsum : ∀ W, (Op.stringOp .add (lt1 j) (bt r)).run Try.prog W = .ok (.string (lt1 j ++ bt r)) W := fun W => run_string_add_sum W _ _ (by rw [lt1_size]; omega)
              have hyz : (lt1 j ++ bt r).size ≤ 61 := by rw [ByteArray.size_append, lt1_size]; omega
              have hyl : (lt1 j ++ bt r).data.toList = letr j :: r := by
                have : lt1 j ++ bt r = bt (letr j :: r) := bl_inj (by rw [bl_append]; rfl)
                rw [this]; exact lt_bt _
              obtain ⟨w4, hup, htab4, hgr⟩ := htab.put (k := i) (by omega) (show q < maxLen by unfold maxLen; omega) (lt1 j ++ bt r) (by unfold maxLen; omega)
              rw [hyl, tabF_set c2] at htab4
              have HT := Lib.hid htab4
              have hMQ : w.heap.size ≠ M := by omega
              have HQ4 := Lib.hid (QQ.kept hgr (by intro e; injection e with e; omega))
              have HB4 := Lib.hid (hB.grown hgr hB.size (fun k e => by cases e; omega))
              have hl1 := lt1_size j
              clear htab htab4 hgr c2 he QQ hB hyl
              generalize lt1 j ++ bt r = y2 at *
              generalize lt1 j = t1 at *
              generalize bt r = rr at *
              
              go_wp2_with fail
              refine (CP _).mono ?_
              rintro e w3 ⟨rfl, rfl⟩
              go_wp2_with fail
              refine (letterOfM_any j _ (by omega)).mono ?_
              rintro e w3 ⟨rfl, rfl⟩
              go_wp2_with fail
              go_roundw
              case rel => exact ⟨j + 1, q + 1, by omega, by go_num, by omega, HT.out, HQ4.out, HB4.out⟩
              case measure => simp [intOf]; omega
            · rw [c4] at CP
              have hlk2 := TabS.yes htab (k := i) (by omega) c5
              have hus : (bt u).size ≤ 60 := by rw [bt_size]; exact hu
              have hltn : ((bt r).size : Int) + 1 < ((bt u).size : Int) := by rw [bt_size, bt_size]; omega
              have he := encode_letter j (by omega)
              have hcv : ∀ W : World, (convert 21 9 (.int .i32 (97 + (j : Int)))).run Try.prog W = .ok (.string (lt1 j)) W := fun W => by
                rw [run_convert_int_string W _ _ _ _ (by rw [Try.underlying21]; rfl) Try.underlying9, he]
              have hsum : ∀ W, (Op.stringOp .add (lt1 j) (bt r)).run Try.prog W = .ok (.string (lt1 j ++ bt r)) W := fun W => run_string_add_sum W _ _ (by rw [lt1_size]; omega)
              have hyz : (lt1 j ++ bt r).size ≤ 61 := by rw [ByteArray.size_append, lt1_size]; omega
              have hyl : (lt1 j ++ bt r).data.toList = letr j :: r := by
                have : lt1 j ++ bt r = bt (letr j :: r) := bl_inj (by rw [bl_append]; rfl)
                rw [this]; exact lt_bt _
              obtain ⟨w4, hup, htab4, hgr⟩ := htab.put (k := i) (by omega) (show q < maxLen by unfold maxLen; omega) (lt1 j ++ bt r) (by unfold maxLen; omega)
              rw [hyl, tabF_set c2] at htab4
              have HT := Lib.hid htab4
              have hMQ : w.heap.size ≠ M := by omega
              have HQ4 := Lib.hid (QQ.kept hgr (by intro e; injection e with e; omega))
              have HB4 := Lib.hid (hB.grown hgr hB.size (fun k e => by cases e; omega))
              have hl1 := lt1_size j
              clear htab htab4 hgr c2 he QQ hB hyl
              generalize lt1 j ++ bt r = y2 at *
              generalize lt1 j = t1 at *
              generalize bt r = rr at *
              generalize bt u = uu at *
              go_wp2_with fail
              refine (CP _).mono ?_
              rintro e w3 ⟨rfl, rfl⟩
              go_wp2_with fail
              refine (letterOfM_any j _ (by omega)).mono ?_
              rintro e w3 ⟨rfl, rfl⟩
              go_wp2_with fail
              go_roundw
              case rel => exact ⟨j + 1, q + 1, by omega, by go_num, by omega, HT.out, HQ4.out, HB4.out⟩
              case measure => simp [intOf]; omega
        · obtain rfl : j = I.length := by omega
          rw [tabG_out I (lts x) (by omega) i (by omega)] at htab
          go_wp2_with fail
          go_roundg i
          case measure => omega
          case rel => exact ⟨q, by omega, by rfl, by omega, htab, QQ, hB⟩
    · obtain rfl : gk = 0 := by omega
      have h0 : tabG I (lts x) 0 0 = bk I (lts x) 0 := if_pos ⟨Nat.le_refl _, Nat.zero_le _⟩
      cases hbk : bk I (lts x) 0 with
      | none =>
        have hlk := TabS.no htab (k := 0) (by omega) (h0.trans hbk)
        rw [show ((0 : Nat) : Int) = 0 from rfl] at hlk
        have HE := Lib.hid (backR_none G.out HF.out hbk)
        go_wp2_with fail
        go_ret2
        rw [← HR.out, HE.out]
        exact ⟨rfl, hB⟩
      | some r =>
        have hlk := TabS.yes htab (k := 0) (by omega) (h0.trans hbk)
        rw [show ((0 : Nat) : Int) = 0 from rfl] at hlk
        have HE := Lib.hid (backR_some G.out HF.out hbk)
        go_wp2_with fail
        go_ret2
        rw [← HR.out, HE.out]
        exact ⟨rfl, hB⟩

set_option maxRecDepth 100000 in
set_option maxHeartbeats 2000000 in
theorem impl_WordFromImage (B : Nat) (v : Value) (I : List (List UInt8)) (x : ByteArray) (w : World) (h : OwnS w B v (I.map bt)) (t : Tot I) (sx : x.size ≤ maxLen) :
    Calls Try.prog 42 #[.agg #[v], .string x] w fun e w' => e = .returned (.tuple #[.string (backR I x).1, .int .i64 (backR I x).2]) ∧ Below w.heap.size w w' := by
  by_cases g : Mor I ∧ IsW x
  · by_cases hf : Few I.length x
    · exact impl_WordFromImage_ok B v I x w h t g hf
    · rw [backR_out g hf]
      have CC := Lib.hid (checkWord_is B v I x (w.alloc (.cells #[v] 53)) (h.below (Below.new _ _)) t sx 2 (mwC_out g hf))
      obtain ⟨p, c, hv⟩ := ownS_value h
      rw [List.length_map] at hv
      subst hv
      clear h t g hf
      go_enter Try.func42, Try.ntmps42
      go_wp2_with fail
      refine CC.out.mono ?_
      rintro e w1 ⟨rfl, b1⟩
      go_wp2_with fail
      go_ret2
      exact ⟨rfl, (Below.new _ _).then b1⟩
  · rw [backR_bad g]
    have CC := Lib.hid (checkWord_is B v I x (w.alloc (.cells #[v] 53)) (h.below (Below.new _ _)) t sx 1 (mwC_bad g))
    obtain ⟨p, c, hv⟩ := ownS_value h
    rw [List.length_map] at hv
    subst hv
    clear h t g
    go_enter Try.func42, Try.ntmps42
    go_wp2_with fail
    refine CC.out.mono ?_
    rintro e w1 ⟨rfl, b1⟩
    go_wp2_with fail
    go_ret2
    exact ⟨rfl, (Below.new _ _).then b1⟩

end Go.Proofs.Ytolboinemechpab
