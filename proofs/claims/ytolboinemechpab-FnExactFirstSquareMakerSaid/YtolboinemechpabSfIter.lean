/- The iterator over the square free words: its contract. -/
import Derived.Test.YtolboinemechpabRangeUp
import Derived.Test.YtolboinemechpabScopeIn
import Derived.Test.YtolboinemechpabDfsPlain
import Derived.Test.YtolboinemechpabNext
namespace Go.Proofs.Ytolboinemechpab
set_option linter.unusedVariables false
set_option linter.unusedSimpArgs false
open Go.RowKit Go.Shelf
attribute [local go_sem] Oper.semAt_some

theorem jumps_ret {J : Nat → Act → World → Prop} {Q : Exit → Act → World → Prop} {a : Act} {w : World} : jumps J Q .ret a w = Q .ret a w := rfl
theorem jumps_normal {J : Nat → Act → World → Prop} {Q : Exit → Act → World → Prop} {a : Act} {w : World} : jumps J Q .normal a w = Q .normal a w := rfl
abbrev encW (s : List UInt8) : Array Value := #[.string ⟨s.toArray⟩]
/-- How the search stands at a label: the word, what was told, what is still to come. -/
def AtLabel (l b1 b2 base m k : Nat) (J : List (List UInt8) → World → Prop) (lab n : Nat) (a : Act) (w : World) : Prop :=
  ∃ (v : Value) (u3 u5 u6 u7 u8 u9 u10 u11 u12 u13 u14 u15 u16 u17 u18 u19 u20 u21 u22 u23 u24 u25 u26 u27 u28 u29 u30 u31 u32 u33 u34 u35 u36 u37 u38 u39 u40 u41 u42 u43 u44 u45 u46 : Value) (p : List Nat) (pre : List (List UInt8)), a = { tmps := #[.func (.yield l) #[] #[], .pointer (some ⟨b1, 0, none⟩), .pointer (some ⟨b2, 0, none⟩), u3, v, u5, u6, u7, u8, u9, u10, u11, u12, u13, u14, u15, u16, u17, u18, u19, u20, u21, u22, u23, u24, u25, u26, u27, u28, u29, u30, u31, u32, u33, u34, u35, u36, u37, u38, u39, u40, u41, u42, u43, u44, u45, u46], defers := [] } ∧
    p.length ≤ m ∧ (∀ c ∈ p, c < k) ∧ w.ownsRow base 5 1 v (wordP p).length (Lib.byteCells (wordP p)) ∧ base ≤ w.heap.size ∧ J pre w ∧ Boxed w b1 2 (.int .i64 (m : Int)) ∧ Boxed w b2 2 (.int .i64 (k : Int)) ∧
    ((lab = 1 ∧ n = stL k m p ∧ pre ++ lookP k m p = dfs k m []) ∨ (lab = 0 ∧ n = stR k m p ∧ pre ++ restP k m p = dfs k m []))

theorem cells_snoc (p : List Nat) (c : Nat) (hc : c ≤ 4) : Lib.byteCells (wordP p) ++ [Value.int .u8 (97 + (c : Int))] = Lib.byteCells (wordP (c :: p)) := by
  rw [wordP_cons, Lib.byteCells_append, ← letB_nat (n := (c : Int)) (by omega) (by omega)]
  rfl
theorem own_value {w : World} {B : Nat} {e : TypeId} {v : Value} {n : Nat} {xs : List Value} (h : w.ownsRow B e 1 v n xs) : ∃ a c, v = .slice a n c := by
  rcases own_forms h with ⟨rfl, rfl, _⟩ | ⟨g, cap, rfl, _⟩
  · exact ⟨_, _, rfl⟩
  · exact ⟨_, _, rfl⟩
/-- A row cut short. -/
theorem own_cut {w : World} {B : Nat} {e : TypeId} {g n c : Nat} {xs : List Value} (h : w.ownsRow B e 1 (.slice (some ⟨g, 0, none⟩) n c) n xs) {j : Nat} (hj : j ≤ n) : w.ownsRow B e 1 (.slice (some ⟨g, 0, none⟩) j c) j (xs.take j) := by
  obtain ⟨hl, ⟨h1, _⟩ | ⟨g', cap, cur, h1, hg, hh, hn, hc, hcs, hx⟩⟩ := h
  · cases h1
  · simp only [Value.slice.injEq, Option.some.injEq, Addr.mk.injEq, true_and, and_true] at h1
    obtain ⟨rfl, rfl⟩ := h1
    refine ⟨by rw [List.length_take, hl]; omega, .inr ⟨g, c, cur, rfl, hg, hh, by omega, hc, hcs, ?_⟩⟩
    rw [← hx, List.take_take]
    congr 1
    omega
theorem cells_cut (p : List Nat) (c : Nat) : (Lib.byteCells (wordP (c :: p))).take (wordP p).length = Lib.byteCells (wordP p) := by
  rw [wordP_cons, Lib.byteCells_append]
  have : (Lib.byteCells (wordP p)).length = (wordP p).length := Lib.byteCells_length _
  rw [← this, List.take_left]

theorem own_up {w w' : World} {B : Nat} {e : TypeId} {v : Value} {n : Nat} {xs : List Value} (h : w.ownsRow B e 1 v n xs) (hu : KeepUp B w w') : w'.ownsRow B e 1 v n xs := by
  obtain ⟨hl, h1 | ⟨g, cap, cur, rfl, hg, hh, r⟩⟩ := h
  · exact ⟨hl, .inl h1⟩
  · exact ⟨hl, .inr ⟨g, cap, cur, rfl, hg, by rw [hu.2 g hg (Array.getElem?_eq_some_iff.1 hh).1]; exact hh, r⟩⟩

set_option maxRecDepth 100000 in
set_option maxHeartbeats 4000000 in
theorem sqfree1_in (n : Nat) (hn : 1 ≤ n) (l b1 b2 : Nat) (m k : Nat) (hm : m ≤ 60) (hk1 : 1 ≤ k) (hk2 : k ≤ 5) (J Jx : List (List UInt8) → World → Prop) (W : World) (hA : ∀ s A B, J s A → Below W.heap.size A B → J s B)
    (hY : ∀ pre x W1, J pre W1 → pre.length < (dfs k m []).length → x ∈ dfs k m [] → YieldAt Fence.wide (n - 1) Try.prog l (encW x) W1 fun e W' =>
      (e = .returned (.bool true) ∧ J (pre ++ [x]) W' ∧ KeepUp W.heap.size W1 W' ∧ ∀ b ∈ [b1, b2], W'.heap[b]? = W1.heap[b]?) ∨ (e = .returned (.bool false) ∧ Jx (pre ++ [x]) W'))
    (c1 : Boxed W b1 2 (.int .i64 (m : Int))) (c2 : Boxed W b2 2 (.int .i64 (k : Int))) (h0 : J [] W) :
    CallsIn Fence.wide n Try.prog 141 #[.func (.yield l) #[] #[], .pointer (some ⟨b1, 0, none⟩), .pointer (some ⟨b2, 0, none⟩)] W fun e W' => (∃ v, e = .returned v) ∧
      ((∃ ys, ys = dfs k m [] ∧ J ys W') ∨ (∃ pre, (pre ≠ [] ∧ ∃ t, pre ++ t = dfs k m []) ∧ Jx pre W')) := by
  obtain ⟨i0, hi, hz0, hz1, hz2⟩ := info_parts infoU8
  refine callsIn_of_wp Try.func141 rfl trivial ?_ rfl
  simp only [Try.ntmps141, List.size_toArray, List.length_cons, List.length_nil, Nat.reduceAdd, Nat.reduceSub, Array.replicate_succ, Array.replicate_zero, List.push_toArray, List.append_toArray, List.nil_append, List.cons_append]
  refine wpIn_scope_two (l0 := 1) (AtLabel l b1 b2 W.heap.size m k J) rfl rfl ?start ?look ?others
  case start =>
    gi_wp2
    exact ⟨stL k m [], .slice none 0 0, _, _, _, _, _, _, _, _, _, _, _, _, _, _, _, _, _, _, _, _, _, _, _, _, _, _, _, _, _, _, _, _, _, _, _, _, _, _, _, _, _, _, _, [], [], rfl, Nat.zero_le _, fun c hc => (by cases hc), World.ownsRow_nil _ _ _ _, Nat.le_refl _, h0, c1, c2, .inl ⟨rfl, rfl, by
      unfold lookP restP
      have h1 : sa (wordP []) ([] : List Nat).length = 0 := sa_low (by decide)
      rw [if_pos h1]
      simp [wordP]⟩⟩
  case look =>
    rintro st a w ⟨v, u3, u5, u6, u7, u8, u9, u10, u11, u12, u13, u14, u15, u16, u17, u18, u19, u20, u21, u22, u23, u24, u25, u26, u27, u28, u29, u30, u31, u32, u33, u34, u35, u36, u37, u38, u39, u40, u41, u42, u43, u44, u45, u46, p, pre, rfl, hp, hc, hown, hbase, hJs, d1, d2, ⟨_, rfl, hpre⟩ | ⟨h, _⟩⟩
    rotate_left
    · cases h
    have hl := wordP_len p
    have hcv := text_of_own hown
    obtain ⟨y, hy⟩ : ∃ y : ByteArray, (⟨(wordP p).toArray⟩ : ByteArray) = y := ⟨_, rfl⟩
    have hyb : bl y = wordP p := by rw [← hy]
    have hys : y.size = p.length := by rw [← bl_len, hyb, hl]
    rw [hy] at hcv
    have CS := fun w => squareAtEnd_any y w (by omega)
    rw [hyb, hys] at CS
    have CS2 := Lib.hid CS
    have HPre := Lib.hid hpre
    have HYB := Lib.hid hyb
    have HL := Lib.hid hl
    have HY := Lib.hid hy
    have HC := Lib.hid hc
    clear CS hpre hyb hl hy hc
    have e1 := d1.cell
    have e2 := d2.cell
    have HO := Lib.hid hown
    obtain ⟨av, cv, hv⟩ := own_value hown
    rw [HL.out] at hv
    subst hv
    clear hown
    by_cases he : sa (wordP p) p.length = 0
    · rw [he] at CS2
      have HE := Lib.hid he
      clear he
      by_cases hpm : p.length = m
      · have HR : Hid (pre ++ [wordP p] ++ restP k m p = dfs k m []) := Lib.hid (by rw [← HPre.out, look_full HE.out hpm]; simp)
        have hpl : pre.length < (dfs k m []).length := by
          have h2 := congrArg List.length HR.out
          simp only [List.length_append, List.length_cons, List.length_nil] at h2
          omega
        subst hpm
        gi_wp2_with (refine ⟨trivial, ?_⟩; gi_at_call 142; refine (callsIn_wide.2 (CS2.out _)).mono ?_; rintro e w1 ⟨rfl, bw⟩; have hown1 := own_below HO.out bw; have hcv1 : (convert 25 9 (.slice av p.length cv)).run Try.prog w1 = .ok (.string y) w1 := (by have := text_of_own hown1; rw [HY.out] at this; exact this); have e1b := Boxed.cell (W := w1) (B := b1) ((bw.block b1 d1.lt).trans d1); have hJ1 := hA _ _ _ hJs (bw.mono hbase); obtain ⟨fn, tmps, assign, body, hyy, hRd⟩ := hY _ (wordP p) w1 hJ1 hpl (by rw [← HR.out]; simp); dsimp only [encW] at hyy; rw [HY.out] at hyy)
        have hs1 : W.heap.size ≤ w1.heap.size := Nat.le_trans hbase bw.size
        refine hRd.mono ?_
        rintro e W3 (⟨rfl, hJ3, hk3, hbs3⟩ | ⟨rfl, hJx3⟩)
        · gi_wp2
          refine wpIn_goto ?_
          show ∃ m', m' < stL k p.length p ∧ AtLabel l b1 b2 W.heap.size p.length k J 0 m' _ _
          exact ⟨stR k p.length p, st_next, .slice av p.length cv, _, _, _, _, _, _, _, _, _, _, _, _, _, _, _, _, _, _, _, _, _, _, _, _, _, _, _, _, _, _, _, _, _, _, _, _, _, _, _, _, _, _, _, p, pre ++ [wordP p], rfl, hp, HC.out, own_up (own_below HO.out bw) hk3, Nat.le_trans hs1 hk3.1, hJ3, (hbs3 b1 (by simp)).trans ((bw.block b1 d1.lt).trans d1), (hbs3 b2 (by simp)).trans ((bw.block b2 d2.lt).trans d2), .inr ⟨rfl, rfl, HR.out⟩⟩
        · gi_wp2
          rw [jumps_ret]
          gi_wp2
          refine bodyPost_ret (results_none rfl _ _ _) rfl ?_
          exact ⟨⟨_, rfl⟩, .inr ⟨_, ⟨by simp, restP k p.length p, HR.out⟩, hJx3⟩⟩
      · have hpm2 : p.length < m := by omega
        have hpmi : ((p.length : Int) == (m : Int)) = false := by rw [beq_eq_false_iff_ne]; omega
        have HR : Hid (pre ++ lookP k m (0 :: p) = dfs k m []) := Lib.hid (by rw [← HPre.out, look_more HE.out hpm2 (by omega)])
        gi_wp2_with (first | (refine ⟨trivial, ?_⟩; gi_at_call 142; go_loud (refine (callsIn_wide.2 (CS2.out _)).mono ?_; rintro e w1 ⟨rfl, bw⟩; have hown1 := own_below HO.out bw; have e1b := Boxed.cell (W := w1) (B := b1) ((bw.block b1 d1.lt).trans d1); have bsz := bw.size)) | (gi_at_builtin; refine wpListIn_append_own _ rfl _ _ 25 rfl W.heap.size 5 i0 (.int .u8 0) 1 1 Try.underlying25 hi hz0 hz1 hz2 rfl (by decide) _ _ _ rfl (hown1.alloc _) ⟨_, 0, none⟩ 1 1 [.int .u8 97] rfl rfl (cell_new _ _ _) (by simp [Value.oneCell']) (by have := HL.out; unfold maxLen; omega) (by have := HL.out; omega) (by simp; omega) ?_; intro v' w2 hown' hgrow _))
        have hb2 : Below W.heap.size w w2 := ((bw.mono hbase).alloc (by omega) _).grown hgrow (by simp; omega) (fun q hq => (hown1.lt q hq).1)
        have hb2z := hb2.size
        have hown2 : w2.ownsRow W.heap.size 5 1 v' (wordP (0 :: p)).length (Lib.byteCells (wordP (0 :: p))) := by
          rw [← cells_snoc p 0 (by omega), wordP_cons, List.length_append]
          exact hown'
        refine wpIn_goto ?_
        show ∃ m', m' < stL k m p ∧ AtLabel l b1 b2 W.heap.size m k J 1 m' _ _
        exact ⟨stL k m (0 :: p), st_more hpm2 (by omega), v', _, _, _, _, _, _, _, _, _, _, _, _, _, _, _, _, _, _, _, _, _, _, _, _, _, _, _, _, _, _, _, _, _, _, _, _, _, _, _, _, _, _, _, 0 :: p, pre, rfl, (by simp; omega), (fun c hc => by rcases List.mem_cons.1 hc with rfl | h; exact (by omega); exact HC.out c h), hown2, Nat.le_trans hbase hb2z, hA _ _ _ hJs hb2, (hb2.block b1 c1.lt).trans d1, (hb2.block b2 c2.lt).trans d2, .inl ⟨rfl, rfl, HR.out⟩⟩
    · have HR : Hid (pre ++ restP k m p = dfs k m []) := Lib.hid (by rw [← look_square he]; exact HPre.out)
      have hsp : (0 : Int) < ((sa (wordP p) p.length : Nat) : Int) := by omega
      generalize sa (wordP p) p.length = s at *
      gi_wp2_with (refine ⟨trivial, ?_⟩; gi_at_call 142; refine (callsIn_wide.2 (CS2.out _)).mono ?_; rintro e w1 ⟨rfl, bw⟩)
      refine wpIn_goto ?_
      show ∃ m', m' < stL k m p ∧ AtLabel l b1 b2 W.heap.size m k J 0 m' _ _
      exact ⟨stR k m p, st_next, .slice av p.length cv, _, _, _, _, _, _, _, _, _, _, _, _, _, _, _, _, _, _, _, _, _, _, _, _, _, _, _, _, _, _, _, _, _, _, _, _, _, _, _, _, _, _, _, p, pre, rfl, hp, HC.out, own_below HO.out bw, Nat.le_trans hbase bw.size, hA _ _ _ hJs (bw.mono hbase), (bw.block b1 d1.lt).trans d1, (bw.block b2 d2.lt).trans d2, .inr ⟨rfl, rfl, HR.out⟩⟩
  case others =>
    rintro lab st a w hne ⟨v, u3, u5, u6, u7, u8, u9, u10, u11, u12, u13, u14, u15, u16, u17, u18, u19, u20, u21, u22, u23, u24, u25, u26, u27, u28, u29, u30, u31, u32, u33, u34, u35, u36, u37, u38, u39, u40, u41, u42, u43, u44, u45, u46, p, pre, rfl, hp, hc, hown, hbase, hJs, d1, d2, ⟨h, _⟩ | ⟨rfl, rfl, hpre⟩⟩
    · exact absurd h hne
    refine ⟨_, rfl, ?_⟩
    have HPre := Lib.hid hpre
    have HC := Lib.hid hc
    clear hpre hc
    have e1 := d1.cell
    have e2 := d2.cell
    cases p with
    | nil =>
      obtain ⟨av, cv, hv⟩ := own_value hown
      have hv2 : v = .slice av 0 cv := hv
      subst hv2
      clear hown hv
      gi_wp2
      rw [jumps_ret]
      refine bodyPost_ret (results_none rfl _ _ _) rfl ?_
      exact ⟨⟨_, rfl⟩, .inl ⟨pre, by have h1 := HPre.out; rw [restP, List.append_nil] at h1; exact h1, hJs⟩⟩
    | cons c p =>
      obtain ⟨n0, hn0⟩ : ∃ n0, p.length = n0 := ⟨_, rfl⟩
      have hl := wordP_len (c :: p)
      rw [List.length_cons, hn0] at hl
      have hl2 := wordP_len p
      rw [hn0] at hl2
      have hp2 : n0 + 1 ≤ m := by rw [List.length_cons, hn0] at hp; exact hp
      rcases own_forms hown with ⟨_, h0, _⟩ | ⟨g, cap, hv, hg1, hg2, hcap, _, hcell, hfz⟩
      · omega
      have hck : c < k := HC.out c (List.mem_cons_self ..)
      have hlast : w.cell? ⟨g, n0, none⟩ = some (.int .u8 (97 + (c : Int))) := by
        rw [hcell n0 (by omega), ← cells_snoc p c (by omega), List.getElem?_append_right (by rw [Lib.byteCells_length]; omega), Lib.byteCells_length, hl2, Nat.sub_self]
        rfl
      rw [hl] at hv
      subst hv
      have hown1 := own_cut (j := n0) (hl ▸ hown) (by omega)
      have hown2 : w.ownsRow W.heap.size 5 1 (.slice (some ⟨g, 0, none⟩) n0 cap) (wordP p).length (Lib.byteCells (wordP p)) := by
        have h1 := cells_cut p c
        rw [hl2] at h1
        rw [hl2, ← h1]
        exact hown1
      have HO := Lib.hid hown2
      have HL2 := Lib.hid hl2
      have HN0 := Lib.hid hn0
      have hcc : n0 < cap := by omega
      have hkk : (0 : Int) ≤ (k : Int) - 1 := by omega
      clear hown hown1 hown2 hl hl2 hn0 hcell hfz hp
      by_cases hk : c + 1 = k
      · have HR : Hid (pre ++ restP k m p = dfs k m []) := Lib.hid (by rw [← HPre.out, next_pop hk])
        have hbq : ((97 + (c : Int)) == 97 + ((k : Int) - 1)) = true := by rw [beq_iff_eq]; omega
        have HK := Lib.hid hk
        clear hk
        gi_wp2_with (refine ⟨trivial, ?_⟩; gi_at_call 98; refine (callsIn_wide.2 (letterOf_w _ _ (by omega) (by omega))).mono ?_; rintro e w1 ⟨rfl, rfl⟩)
        refine wpIn_goto ?_
        show ∃ m', m' < stR k m (c :: p) ∧ AtLabel l b1 b2 W.heap.size m k J 0 m' _ _
        exact ⟨stR k m p, st_pop, .slice (some ⟨g, 0, none⟩) n0 cap, _, _, _, _, _, _, _, _, _, _, _, _, _, _, _, _, _, _, _, _, _, _, _, _, _, _, _, _, _, _, _, _, _, _, _, _, _, _, _, _, _, _, _, p, pre, rfl, (by have := HN0.out; omega), (fun d hd => HC.out d (List.mem_cons_of_mem _ hd)), HO.out, hbase, hJs, d1, d2, .inr ⟨rfl, rfl, HR.out⟩⟩
      · have hk3 : c + 1 < k := by omega
        have HR : Hid (pre ++ lookP k m ((c + 1) :: p) = dfs k m []) := Lib.hid (by rw [← HPre.out, next_on hk3])
        have hbq : ((97 + (c : Int)) == 97 + ((k : Int) - 1)) = false := by rw [beq_eq_false_iff_ne]; omega
        gi_wp2_with (first | (refine ⟨trivial, ?_⟩; gi_at_call 98; refine (callsIn_wide.2 (letterOf_w _ _ (by omega) (by omega))).mono ?_; rintro e w1 ⟨rfl, rfl⟩) | (gi_at_builtin; refine wpListIn_append_own _ rfl _ _ 25 rfl W.heap.size 5 i0 (.int .u8 0) 1 1 Try.underlying25 hi hz0 hz1 hz2 rfl (by decide) _ _ _ rfl ((HL2.out ▸ HO.out).alloc _) ⟨_, 0, none⟩ 1 1 [.int .u8 (97 + (c : Int) + 1)] rfl rfl (cell_new _ _ _) (by simp [Value.oneCell']) (by unfold maxLen; omega) (by omega) (by simp; omega) ?_; intro v' w2 hown' hgrow _))
        have hb2 : Below W.heap.size w w2 := ((Below.refl W.heap.size w).alloc hbase _).grown hgrow (by simp; omega) (fun q hq => (HO.out.lt q hq).1)
        have hb2z := hb2.size
        have hown2 : w2.ownsRow W.heap.size 5 1 v' (wordP ((c + 1) :: p)).length (Lib.byteCells (wordP ((c + 1) :: p))) := by
          rw [← cells_snoc p (c + 1) (by omega), wordP_cons, List.length_append, HL2.out, show (97 + ((c + 1 : Nat) : Int)) = 97 + (c : Int) + 1 by omega]
          exact hown'
        refine wpIn_goto ?_
        show ∃ m', m' < stR k m (c :: p) ∧ AtLabel l b1 b2 W.heap.size m k J 1 m' _ _
        exact ⟨stL k m ((c + 1) :: p), st_on hk3, v', _, _, _, _, _, _, _, _, _, _, _, _, _, _, _, _, _, _, _, _, _, _, _, _, _, _, _, _, _, _, _, _, _, _, _, _, _, _, _, _, _, _, _, (c + 1) :: p, pre, rfl, (by rw [List.length_cons]; have := HN0.out; omega), (fun d hd => by rcases List.mem_cons.1 hd with rfl | h; exact hk3; exact HC.out d (List.mem_cons_of_mem _ h)), hown2, Nat.le_trans hbase hb2z, hA _ _ _ hJs hb2, (hb2.block b1 c1.lt).trans d1, (hb2.block b2 c2.lt).trans d2, .inl ⟨rfl, rfl, HR.out⟩⟩

theorem sqfree_up (n : Nat) (hn : 1 ≤ n) (b1 b2 : Nat) (m k : Nat) (hm : m ≤ 60) (hk1 : 1 ≤ k) (hk2 : k ≤ 5) (w : World) (c1 : Boxed w b1 2 (.int .i64 (m : Int))) (c2 : Boxed w b2 2 (.int .i64 (k : Int))) :
    SeqUp Fence.wide n Try.prog 141 #[.pointer (some ⟨b1, 0, none⟩), .pointer (some ⟨b2, 0, none⟩)] encW [b1, b2] (fun ys => ys = dfs k m []) (fun pre => pre ≠ [] ∧ ∃ t, pre ++ t = dfs k m []) (dfs k m []).length w := fun l J Jx W hW hA _ hY h0 =>
  sqfree1_in n hn l b1 b2 m k hm hk1 hk2 J Jx W hA (fun pre x W1 a b _ => hY pre x W1 a b) ((hW.block b1 c1.lt).trans c1) ((hW.block b2 c2.lt).trans c2) h0

/-- The same, the body being told that each word is one of those that are searched for. -/
theorem sqfree_upM (n : Nat) (hn : 1 ≤ n) (b1 b2 : Nat) (m k : Nat) (hm : m ≤ 60) (hk1 : 1 ≤ k) (hk2 : k ≤ 5) (w : World) (c1 : Boxed w b1 2 (.int .i64 (m : Int))) (c2 : Boxed w b2 2 (.int .i64 (k : Int))) :
    SeqUp Fence.wide n Try.prog 141 #[.pointer (some ⟨b1, 0, none⟩), .pointer (some ⟨b2, 0, none⟩)] (fun s : {s : List UInt8 // s ∈ dfs k m []} => encW s.val) [b1, b2] (fun ys => ys.map Subtype.val = dfs k m []) (fun pre => pre ≠ [] ∧ ∃ t, pre.map Subtype.val ++ t = dfs k m []) (dfs k m []).length w := fun l J Jx W hW hA _ hY h0 => by
  refine (sqfree1_in n hn l b1 b2 m k hm hk1 hk2 (fun pre W' => ∃ pre' : List {s : List UInt8 // s ∈ dfs k m []}, pre'.map Subtype.val = pre ∧ J pre' W') (fun pre W' => ∃ pre' : List {s : List UInt8 // s ∈ dfs k m []}, pre'.map Subtype.val = pre ∧ Jx pre' W') W
    (fun s A B ⟨s', e, h⟩ hb => ⟨s', e, hA s' A B h hb⟩) ?_ ((hW.block b1 c1.lt).trans c1) ((hW.block b2 c2.lt).trans c2) ⟨[], rfl, h0⟩).mono ?_
  · rintro pre x W1 ⟨pre', rfl, hJ⟩ hl hx
    rw [List.length_map] at hl
    obtain ⟨fn, tmps, assign, body, hy, hR⟩ := hY pre' ⟨x, hx⟩ W1 hJ hl
    refine ⟨fn, tmps, assign, body, hy, hR.mono ?_⟩
    rintro e W' (⟨he, h1, h2, h3⟩ | ⟨he, h1⟩)
    · exact .inl ⟨he, ⟨pre' ++ [⟨x, hx⟩], by simp, h1⟩, h2, h3⟩
    · exact .inr ⟨he, ⟨pre' ++ [⟨x, hx⟩], by simp, h1⟩⟩
  · rintro e W' ⟨hv, ⟨ys, hys, ys', e1, hJ⟩ | ⟨pre, ⟨h1, h2⟩, pre', e1, hJ⟩⟩
    · exact ⟨hv, .inl ⟨ys', e1.trans hys, hJ⟩⟩
    · refine ⟨hv, .inr ⟨pre', ⟨fun e => h1 ?_, ?_⟩, hJ⟩⟩
      · rw [← e1, e]; rfl
      · rw [e1]; exact h2

set_option maxHeartbeats 1000000 in
theorem sqfreeWords_in (n : Nat) (m k : Int) (w : World) :
    CallsIn Fence.wide n Try.prog 103 #[.int .i64 m, .int .i64 k] w fun e w' => e = .returned (.func (.func 141) #[] #[.pointer (some ⟨w.heap.size, 0, none⟩), .pointer (some ⟨w.heap.size + 1, 0, none⟩)]) ∧ w' = (w.alloc (.cells #[.int .i64 m] 2)).alloc (.cells #[.int .i64 k] 2) := by
  refine callsIn_of_wp Try.func103 rfl trivial ?_ rfl
  simp only [Try.ntmps103, List.size_toArray, List.length_cons, List.length_nil, Nat.reduceAdd, Nat.reduceSub, Array.replicate_succ, Array.replicate_zero, List.push_toArray, List.append_toArray, List.nil_append, List.cons_append]
  gi_wp2
  go_ret
  exact ⟨rfl, rfl⟩

end Go.Proofs.Ytolboinemechpab
