/- Images and iterates: the program. -/
import Derived.Test.YtjneebhbgogppaaImgS
import Derived.Test.YtjneebhbgogppaaScopeTwo
import Derived.Test.YtjneebhbgogppaaLib
import Derived.Deep.RegionHeld3
import Derived.Deep.AppendLies
import Derived.Lib.AppendStr
import Derived.IntWalk
namespace Go.Proofs.Ytjneebhbgogppaa
set_option linter.unusedVariables false
set_option linter.unusedSimpArgs false
open Go.RowKit Go.Lib

/-- A text appended to a row of bytes that the call owns, at a step of a region that draws. -/
theorem step_append_string {P : Program} {ops : Array Oper} {o : Oper} {a : Act} {K : Act → World → Prop} {Q : Exit → Act → World → Prop} {E : Prop} (w : World) (hgd : o.guard = none) (sl x : Operand) (t u : TypeId)
    (ho : o.op = .call { callee := .builtin .append, args := #[sl, x], argTypes := #[t, u] })
    (base : Nat) (e : TypeId) (i : TypeInfo) (ht : P.underlying t = some (.slice e)) (hu : P.underlying u = some .string) (hi : P.info? e = some i) (hz : i.zero = some (.int .u8 0))
    (hsize : i.size = 1) (hby : i.bytes = 1)
    (v : Value) (n : Nat) (xs : List Value) (hs : a.eval sl = v) (hown : w.ownsRow base e 1 v n xs) (s : ByteArray) (hx : a.eval x = .string s)
    (h63 : n + s.size ≤ maxLen) (hbytes : n + s.size ≤ 140737488355328) (hbase : base ≤ w.heap.size)
    (h : ∀ p c w', w'.ownsRow base e 1 (.slice p (n + s.size) c) (n + s.size) (xs ++ strCells s) → w.grownBy w' v.ownBlock → K (a.put o.dst (.slice p (n + s.size) c)) w') :
    if Region.wanted o (yielded ops a.tmps) = true then Oper.wp P o a w K Q else E := by
  have hw : Region.wanted o (yielded ops a.tmps) = true := by simp [Region.wanted, hgd]
  rw [if_pos hw]
  obtain ⟨v', w', hr, h2, h3, h4⟩ := run_append_own_string (P := P) w base t u o.type e i ht hu hi hz hsize hby v n xs hown s h63 hbytes hbase
  unfold Oper.wp execOp
  simp only [ho, resolve, invoke, builtin, Sem.run_bind, Sem.run_pure, Result.andThen_ok, List.map_toArray, List.map_cons, List.map_nil, hs, hx, hr]
  rcases own_forms h2 with ⟨rfl, h0, _⟩ | ⟨g, cap, rfl, _⟩
  · have := h none 0 w'
    rw [h0] at this
    rw [h0] at h2
    exact this h2 h3
  · exact h _ cap w' h2 h3

theorem own_sliceV {w : World} {B : Nat} {e : TypeId} {v : Value} {n : Nat} {xs : List Value} (h : w.ownsRow B e 1 v n xs) : ∃ a c, v = .slice a n c := by
  rcases own_forms h with ⟨rfl, h0, _⟩ | ⟨g, cap, rfl, _⟩
  · exact ⟨none, 0, by rw [h0]⟩
  · exact ⟨_, cap, rfl⟩
theorem strCells_bytes (s : ByteArray) : strCells s = byteCells (lts s) := rfl

theorem jumpsP_ret {J : Nat → Act → World → Prop} {Q : Exit → Act → World → Prop} {a : Act} {w : World} : jumpsP J Q .ret a w = Q .ret a w := rfl

def itT : Option (List UInt8) → ByteArray
  | none => ⟨#[]⟩
  | some l => bt l
/-- How the machine stands at its first label. -/
def AtTake (b : Nat) (W1 : World) (V : Value) (x : ByteArray) (I : List (List UInt8)) (R : Option (List UInt8)) (m : Nat) (a : Act) (wr : World) : Prop :=
  ∃ (u9 u10 u11 u12 u13 u14 u15 u16 u17 u18 u19 u20 u21 u22 u23 u24 u25 u26 u27 u28 u29 u30 u31 u32 u33 u34 u35 u36 u37 u38 : Value) (k : Nat) (l : List UInt8) (y : ByteArray), a = { tmps := #[.agg #[V], .string x, .int .i64 (k : Int), .pointer (some ⟨b, 0, none⟩), undef, undef, .string ⟨#[]⟩, .bool false, .string y, u9, u10, u11, u12, u13, u14, u15, u16, u17, u18, u19, u20, u21, u22, u23, u24, u25, u26, u27, u28, u29, u30, u31, u32, u33, u34, u35, u36, u37, u38], defers := [] } ∧
    k ≤ 100 ∧ m = k * 100 + 99 ∧ Hid (y = bt l) ∧ Hid (lets I l) ∧ l.length ≤ 60 ∧ Hid (itr I k l = R) ∧ Below W1.heap.size W1 wr
/-- How it stands at the second one. -/
def AtLetter (b : Nat) (W1 : World) (V : Value) (x : ByteArray) (I : List (List UInt8)) (R : Option (List UInt8)) (m : Nat) (a : Act) (wr : World) : Prop :=
  ∃ (u11 u12 u13 u14 u15 u16 u17 u18 u19 u20 u21 u22 u23 u24 u25 u26 u27 u28 u29 u30 u31 u32 u33 u34 u35 u36 u37 u38 : Value) (k : Nat) (l : List UInt8) (y : ByteArray) (p : Option Addr) (n c j : Nat), a = { tmps := #[.agg #[V], .string x, .int .i64 ((k : Int) + 1), .pointer (some ⟨b, 0, none⟩), undef, undef, .string ⟨#[]⟩, .bool false, .string y, .slice p n c, .int .i64 (j : Int), u11, u12, u13, u14, u15, u16, u17, u18, u19, u20, u21, u22, u23, u24, u25, u26, u27, u28, u29, u30, u31, u32, u33, u34, u35, u36, u37, u38], defers := [] } ∧
    k + 1 ≤ 100 ∧ j ≤ l.length ∧ m = (k + 1) * 100 + (60 - j) ∧ Hid (y = bt l) ∧ Hid (lets I l) ∧ l.length ≤ 60 ∧ Hid (itr I (k + 1) l = R) ∧ n ≤ 60 ∧ Hid (n = (imgOf I (l.take j)).length) ∧
    wr.ownsRow W1.heap.size 5 1 (.slice p n c) n (byteCells (imgOf I (l.take j))) ∧ Below W1.heap.size W1 wr

set_option maxRecDepth 100000 in
set_option maxHeartbeats 2000000 in
theorem iterateOf_any (B : Nat) (v : Value) (I : List (List UInt8)) (l0 : List UInt8) (x : ByteArray) (k0 : Nat) (w : World) (h : OwnS w B v (I.map bt)) (g : Mor I) (hx : x = bt l0) (hl : lets I l0) (h60 : l0.length ≤ 60) (hk : k0 ≤ 100) :
    Calls Try.prog 60 #[.agg #[v], .string x, .int .i64 (k0 : Int)] w fun e w' => e = .returned (.tuple #[.string (itT (itr I k0 l0)), .bool (itr I k0 l0).isSome]) ∧ Below w.heap.size w w' := by
  obtain ⟨i0, hi, hz0, hz1, hz2⟩ := info_parts infoU8
  have hmo : Try.prog.follows .mixedOrders = true := by kernel_rfl
  have h1 := g.len1
  have h5 := g.len5
  obtain ⟨p, cap, rfl, hg, hc, cell⟩ := h.rowM (by omega)
  obtain ⟨R, hR⟩ : ∃ R, itr I k0 l0 = R := ⟨_, rfl⟩
  rw [hR]
  have HR0 := Lib.hid hR
  obtain ⟨W1, hW1⟩ : ∃ W1 : World, W1 = w.alloc (.cells #[.slice (some ⟨p, 0, none⟩) I.length cap] 27) := ⟨_, rfl⟩
  have qh : Boxed W1 w.heap.size 27 (.slice (some ⟨p, 0, none⟩) I.length cap) := by rw [hW1]; exact Boxed.new _ _ _
  have B1 : Below w.heap.size w W1 := by rw [hW1]; exact Below.new _ _
  have HW1 := Lib.hid hW1
  have QH := Lib.hid qh
  have C := Lib.hid cell
  have G := Lib.hid g
  have HL0 := Lib.hid hl
  have HX0 := Lib.hid hx
  clear h cell g hl hx hR hW1 qh
  go_enter Try.func60, Try.ntmps60
  go_wp2
  refine wp_scope_two (l0 := 0) (l1 := 1) (AtTake w.heap.size W1 (.slice (some ⟨p, 0, none⟩) I.length cap) x I R) (AtLetter w.heap.size W1 (.slice (some ⟨p, 0, none⟩) I.length cap) x I R) ?f0 ?f1 ?start ?look ?tail
  case f0 => rfl
  case f1 => rfl
  case start =>
    go_wp2
    rw [← HW1.out]
    exact ⟨_, _, _, _, _, _, _, _, _, _, _, _, _, _, _, _, _, _, _, _, _, _, _, _, _, _, _, _, _, _, _, k0, l0, x, rfl, hk, rfl, HX0, HL0, h60, HR0, Below.refl _ _⟩
  case look =>
    rintro m a wr ⟨u9, u10, u11, u12, u13, u14, u15, u16, u17, u18, u19, u20, u21, u22, u23, u24, u25, u26, u27, u28, u29, u30, u31, u32, u33, u34, u35, u36, u37, u38, k, l, y, rfl, hk, hm, HY, HLL, hl60, HI, hB⟩
    have HM := Lib.hid hm
    clear hm
    have hys : y.size ≤ 60 := by rw [HY.out]; exact hl60
    by_cases hk0 : k = 0
    · subst hk0
      have HV : Hid (R = some l) := Lib.hid (by rw [← HI.out]; rfl)
      go_wp2_with (go_at_call 67; refine (strings_Clone y _ (by omega)).mono ?_; rintro e w2 ⟨rfl, b2⟩)
      try rw [Exit.noGoto_ret]
      go_ret2
      exact ⟨by rw [HV.out]; show _ = Ending.returned (.tuple #[.string (bt l), .bool true]); rw [← HY.out]; rfl, (B1.then hB).then b2⟩
    · obtain ⟨k, rfl⟩ : ∃ q, k = q + 1 := ⟨k - 1, by omega⟩
      have hk1 : ¬ ((k : Int) + 1 = 0) := by omega
      have hcast : ((k + 1 : Nat) : Int) = (k : Int) + 1 := by omega
      rw [hcast]
      clear hcast hk0
      go_wp2
      exact ⟨(k + 1) * 100 + 60, by have := HM.out; omega, _, _, _, _, _, _, _, _, _, _, _, _, _, _, _, _, _, _, _, _, _, _, _, _, _, _, _, _, k, l, y, none, 0, 0, 0, rfl, hk, Nat.zero_le _, by omega, HY, HLL, hl60, HI, by omega, Lib.hid rfl, World.ownsRow_nil _ _ _ _, hB⟩
  case tail =>
    rintro m a wr ⟨u11, u12, u13, u14, u15, u16, u17, u18, u19, u20, u21, u22, u23, u24, u25, u26, u27, u28, u29, u30, u31, u32, u33, u34, u35, u36, u37, u38, k, l, y, pp, n, c, j, rfl, hk, hj, hm, HY, HLL, hl60, HI, hn60, HN, hown, hB⟩
    have HM := Lib.hid hm
    have BW := B1.then hB
    have kr := (boxed_later QH.out hB).cell
    have hys : y.size = l.length := by rw [HY.out]; rfl
    have HYS := Lib.hid hys
    have hyl1 : y.size ≤ l.length := by omega
    have hyl2 : l.length ≤ y.size := by omega
    clear hm hys
    by_cases hp : j < l.length
    · have hjy : j < y.size := by omega
      obtain ⟨n1, hn1, e1, e2, _⟩ := letter_img HLL.out j hp
      have hyg : y[j]'hjy = l[j]'hp := by have := HY.out; subst this; rfl
      rw [← hyg] at e1
      have kc : wr.cell? ⟨p, n1, none⟩ = some (.string (bt (I[n1]'hn1))) := by rw [(bcell BW).1 p n1 hg]; exact C.out n1 hn1
      have hz12 : (bt (I[n1]'hn1)).size ≤ 12 := (G.out.im n1 hn1).1
      have hap : byteCells (imgOf I (l.take j)) ++ strCells (bt (I[n1]'hn1)) = byteCells (imgOf I (l.take (j + 1))) := by
        rw [strCells_bytes, lt_bt, imgOf_take I l j hp, e2, byteCells_append]
      have hln : n + (bt (I[n1]'hn1)).size = (imgOf I (l.take (j + 1))).length := by rw [HN.out, imgOf_take I l j hp, e2, List.length_append]; rfl
      have HAP := Lib.hid hap
      have HLN := Lib.hid hln
      have hmore := imgOf_take_len I l (j + 1)
      have HMO := Lib.hid hmore
      have hpw : p < W1.heap.size := Nat.lt_of_lt_of_le hg B1.size
      have hbl : w.heap.size < W1.heap.size := (QH.out).lt
      have hbz := hB.size
      have hnew : ∀ k, (Value.slice pp n c).ownBlock = some k → W1.heap.size ≤ k := fun k hk => (hown.lt k hk).1
      have hne1 : (Value.slice pp n c).ownBlock ≠ some p := fun e => by have := hnew p e; omega
      have hne2 : (Value.slice pp n c).ownBlock ≠ some w.heap.size := fun e => by have := hnew _ e; omega
      generalize bt (I[n1]'hn1) = z at kc hz12 HAP HLN
      have hnc : n1 < cap := by omega
      have hjl : (j : Int) < (y.size : Int) := by omega
      have hni : (n1 : Int) < (I.length : Int) := by omega
      have hn0 : (0 : Int) ≤ (n1 : Int) := by omega
      have wq1 : IntKind.u8.wrap (n1 : Int) = (n1 : Int) := IntWalk.u8_in _ (by omega)
      have HOWN := Lib.hid hown
      have HNE1 := Lib.hid hne1
      have HNE2 := Lib.hid hne2
      clear e2 hap hln hmore hyg hown hne1 hne2 hnew
      go_wp2_with fail
      go_region_held3 (fun w' => w'.cell? ⟨w.heap.size, 0, none⟩ = some (.slice (some ⟨p, 0, none⟩) I.length cap) ∧ w'.cell? ⟨p, n1, none⟩ = some (.string z))
        (first | go_keep | (refine ⟨?_, ?_⟩ <;> (first | (rw [hgrow.cell_far _ (by simp; omega) (Ne.symm HNE2.out)]; assumption) | (rw [hgrow.cell_far _ (by simp; omega) (Ne.symm HNE1.out)]; assumption))))
        ((refine step_append_string _ (by rfl) _ _ _ _ (by rfl) W1.heap.size 5 i0 Try.underlying90 Try.underlying9 hi hz0 hz1 hz2 (.slice pp n c) n (byteCells (imgOf I (l.take j))) (by rfl) (HOWN.out.drew) z (by rfl) (by unfold maxLen; omega) (by omega) (by simp; omega) ?_; intro pp2 cc2 w3 hown' hgrow))
      have hB3 : Below W1.heap.size W1 w3 := (hB.drew).grown hgrow (by simp; omega) (fun q hq => (HOWN.out.lt q hq).1)
      have HO := Lib.hid hown'
      have HB3 := Lib.hid hB3
      clear hown' hgrow hB3
      by_cases h60 : 60 < n + z.size
      · have HV : Hid (R = none) := Lib.hid (by rw [← HI.out, itr_long (by have := HLN.out; have := HMO.out; omega)])
        have h60i : (60 : Int) < (n : Int) + (z.size : Int) := by omega
        go_wp2_with fail
        try rw [jumpsP_ret]
        go_ret2
        exact ⟨by rw [HV.out]; rfl, B1.then HB3.out⟩
      · have h60i : ¬ (60 : Int) < (n : Int) + (z.size : Int) := by omega
        go_wp2_with fail
        refine wp_goto ?_
        have hj1 : ((j : Int) + 1) = ((j + 1 : Nat) : Int) := by omega
        rw [hj1]
        exact ⟨(k + 1) * 100 + (60 - (j + 1)), by have := HM.out; omega, .inr ⟨rfl, _, _, _, _, _, _, _, _, _, _, _, _, _, _, _, _, _, _, _, _, _, _, _, _, _, _, _, _, k, l, y, pp2, n + z.size, cc2, j + 1, rfl, hk, hp, rfl, HY, HLL, hl60, HI, by omega, HLN, by have h := HO.out; rw [HAP.out] at h; exact h, HB3.out⟩⟩
    · have hjl : ¬ (j : Int) < (y.size : Int) := by omega
      have hje : j = l.length := by omega
      have hfull : imgOf I (l.take j) = imgOf I l := by rw [hje, List.take_of_length_le (Nat.le_refl _)]
      have HF := Lib.hid hfull
      have hcv := text_of_own (w := wr) (B := W1.heap.size) (v := .slice pp n c) (l := imgOf I (l.take j)) (by rw [← HN.out]; exact hown)
      rw [hfull] at hcv
      have hHL := imgOf_lets G.out HLL.out
      have hnl : (imgOf I l).length ≤ 60 := by have := HN.out; rw [HF.out] at this; omega
      have HI2 := Lib.hid ((itr_step (k := k) (by omega : ¬ 60 < (imgOf I l).length)).symm.trans HI.out)
      have HH := Lib.hid hHL
      obtain ⟨z, hz⟩ : ∃ z : ByteArray, z = bt (imgOf I l) := ⟨_, rfl⟩
      have HZ := Lib.hid hz
      have hcv2 : (convert 90 9 (.slice pp n c)).run Try.prog wr = .ok (.string z) wr := by rw [hz]; exact hcv
      have hk1 : (k : Int) + 1 - 1 = (k : Int) := by omega
      clear hje hfull hcv hHL hz
      go_wp2_with fail
      refine wp_goto ?_
      exact ⟨k * 100 + 99, by have := HM.out; omega, .inl ⟨rfl, _, _, _, _, _, _, _, _, _, _, _, _, _, _, _, _, _, _, _, _, _, _, _, _, _, _, _, _, _, _, k, imgOf I l, z, rfl, by omega, rfl, HZ, HH, hnl, HI2, hB⟩⟩

theorem iterR_all {I : List (List UInt8)} {x : ByteArray} {k : Nat} (h : Mor I ∧ IsW x) (hf : Few I.length x) (hk : k ≤ 100) : iterR I x (k : Int) = if (itr I k (lts x)).isSome = true then (itT (itr I k (lts x)), 0) else (⟨#[]⟩, 3) := by
  cases e : itr I k (lts x) with
  | none => rw [iterR_none h hf hk e]; rfl
  | some l => rw [iterR_some h hf hk e]; rfl
theorem itT_size {I : List (List UInt8)} : ∀ (k : Nat) (l : List UInt8), l.length ≤ 60 → (itT (itr I k l)).size ≤ 60
  | 0, l, h => h
  | k + 1, l, h => by
    by_cases e : 60 < (imgOf I l).length
    · rw [itr_long e]; show 0 ≤ 60; omega
    · rw [itr_step e]; exact itT_size k _ (by omega)

set_option maxRecDepth 100000 in
set_option maxHeartbeats 1000000 in
theorem impl_IterateOf (B : Nat) (v : Value) (I : List (List UInt8)) (x : ByteArray) (k : Int) (w : World) (h : OwnS w B v (I.map bt)) (t : Tot I) (sx : x.size ≤ maxLen) (wk : (Lit.int .i64 k).wf = true) :
    Calls Try.prog 23 #[.agg #[v], .string x, .int .i64 k] w fun e w' => e = .returned (.tuple #[.string (iterR I x k).1, .int .i64 (iterR I x k).2]) ∧ Below w.heap.size w w' := by
  obtain ⟨p, c, hv⟩ := ownS_value h
  rw [List.length_map] at hv
  subst hv
  have hI := t.1
  have BN : Below w.heap.size w (w.alloc (.cells #[.slice p I.length c] 27)) := Below.new _ _
  have QN : Boxed (w.alloc (.cells #[.slice p I.length c] 27)) w.heap.size 27 (.slice p I.length c) := Boxed.new _ _ _
  have HBN := Lib.hid BN
  have HQN := Lib.hid QN
  have H := Lib.hid (h.below BN)
  clear BN QN h
  by_cases g : Mor I ∧ IsW x
  · by_cases hf : Few I.length x
    · by_cases hk : 0 ≤ k ∧ k ≤ 100
      · obtain ⟨n, rfl⟩ := Int.eq_ofNat_of_zero_le hk.1
        have hn : n ≤ 100 := by omega
        have hn1 : ¬ (n : Int) < 0 := by omega
        have hn2 : ¬ (100 : Int) < (n : Int) := by omega
        have hx60 : (lts x).length ≤ 60 := by rw [lt_len]; exact g.2.size
        have hl := lets_of g.2 hf
        have c1 := fun W h => checkWord_is B (.slice p I.length c) I x W h t sx 0 (mwC_ok g hf)
        have c2 := fun W h => iterateOf_any B (.slice p I.length c) I (lts x) x n W h g.1 (bt_lt x).symm hl hx60 hn
        rw [iterR_all g hf hn]
        generalize itT (itr I n (lts x)) = y at c2 ⊢
        generalize (itr I n (lts x)).isSome = b at c2 ⊢
        have C1 := Lib.hid c1
        have C2 := Lib.hid c2
        clear c1 c2 hl hf g hk
        cases b with
        | true =>
          go_enter Try.func23, Try.ntmps23
          go_wp2_with fail
          refine (C1.out _ H.out).mono ?_
          rintro e w1 ⟨rfl, b1⟩
          have kq := (boxed_later HQN.out b1).cell
          have B1 := HBN.out.then b1
          go_wp2_with fail
          refine (C2.out _ (H.out.below b1)).mono ?_
          rintro e w2 ⟨rfl, b2⟩
          have B2 := B1.then b2
          go_wp2_with fail
          go_ret2
          exact ⟨rfl, B2⟩
        | false =>
          go_enter Try.func23, Try.ntmps23
          go_wp2_with fail
          refine (C1.out _ H.out).mono ?_
          rintro e w1 ⟨rfl, b1⟩
          have kq := (boxed_later HQN.out b1).cell
          have B1 := HBN.out.then b1
          go_wp2_with fail
          refine (C2.out _ (H.out.below b1)).mono ?_
          rintro e w2 ⟨rfl, b2⟩
          have B2 := B1.then b2
          go_wp2_with fail
          go_ret2
          exact ⟨rfl, B2⟩
      · rw [iterR_out g (.inr (by omega))]
        have c1 := fun W h => checkWord_is B (.slice p I.length c) I x W h t sx 0 (mwC_ok g hf)
        have C1 := Lib.hid c1
        clear c1
        rcases (show k < 0 ∨ (¬ k < 0 ∧ 100 < k) by omega) with k1 | ⟨k1, k2⟩
        all_goals
          clear hk
          go_enter Try.func23, Try.ntmps23
          go_wp2_with fail
          refine (C1.out _ H.out).mono ?_
          rintro e w1 ⟨rfl, b1⟩
          have B1 := HBN.out.then b1
          go_wp2_with fail
          go_ret2
          exact ⟨rfl, B1⟩
    · rw [iterR_out g (.inl hf)]
      have c1 := fun W h => checkWord_is B (.slice p I.length c) I x W h t sx 2 (mwC_out g hf)
      have C1 := Lib.hid c1
      clear c1
      go_enter Try.func23, Try.ntmps23
      go_wp2_with fail
      refine (C1.out _ H.out).mono ?_
      rintro e w1 ⟨rfl, b1⟩
      have B1 := HBN.out.then b1
      go_wp2_with fail
      go_ret2
      exact ⟨rfl, B1⟩
  · rw [iterR_bad g]
    have c1 := fun W h => checkWord_is B (.slice p I.length c) I x W h t sx 1 (mwC_bad g)
    have C1 := Lib.hid c1
    clear c1
    go_enter Try.func23, Try.ntmps23
    go_wp2_with fail
    refine (C1.out _ H.out).mono ?_
    rintro e w1 ⟨rfl, b1⟩
    have B1 := HBN.out.then b1
    go_wp2_with fail
    go_ret2
    exact ⟨rfl, B1⟩

set_option maxRecDepth 100000 in
theorem impl_ImageOf (B : Nat) (v : Value) (I : List (List UInt8)) (x : ByteArray) (w : World) (h : OwnS w B v (I.map bt)) (t : Tot I) (sx : x.size ≤ maxLen) :
    Calls Try.prog 21 #[.agg #[v], .string x] w fun e w' => e = .returned (.tuple #[.string (iterR I x 1).1, .int .i64 (iterR I x 1).2]) ∧ Below w.heap.size w w' := by
  have c1 := fun W h => impl_IterateOf B v I x 1 W h t sx (by decide)
  generalize (iterR I x 1).1 = y at c1 ⊢
  generalize (iterR I x 1).2 = q at c1 ⊢
  obtain ⟨p, c, hv⟩ := ownS_value h
  rw [List.length_map] at hv
  subst hv
  have C1 := Lib.hid c1
  have H := Lib.hid h
  clear c1 h
  go_enter Try.func21, Try.ntmps21
  go_wp2_with fail
  refine (C1.out _ (H.out.below (Below.new _ _))).mono ?_
  rintro e w1 ⟨rfl, b1⟩
  go_wp2_with fail
  go_ret2
  exact ⟨rfl, (Below.new _ _).then b1⟩
end Go.Proofs.Ytjneebhbgogppaa
