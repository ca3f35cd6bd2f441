/- The lists of lengths tried. -/
import Derived.Test.YtfipbnognjepkaaDoorTryV
import Derived.StillTail
import Derived.StillTailTactics
import Derived.Deep.RegionHeld3
namespace Go.Proofs.YtfipbnognjepkaaDoor
set_option linter.unusedVariables false
set_option linter.unusedSimpArgs false
open Go.RowKit

theorem infoInt10 : (Tryd.prog.info? 3).map (fun i => (i.zero, i.size, i.bytes)) = some (some (.int .i64 0), 1, 8) := by kernel_rfl
theorem _root_.Go.World.grownBy.then' {w w1 w2 : World} {b : Nat} (h : w.grownBy w1 (some b)) (k : w1.grownBy w2 (some b)) : w.grownBy w2 (some b) :=
  ⟨k.os.trans h.os, k.tape.trans h.tape, k.output.trans h.output, Nat.le_trans h.size k.size, fun i hi hn => (k.block i (Nat.lt_of_lt_of_le hi h.size) hn).trans (h.block i hi hn)⟩
theorem grown_belowT {w w1 : World} {b : Nat} (h : Below w.heap.size w w1) : w.grownBy w1 (some b) := ⟨h.os, h.tape, h.output, h.size, fun i hi _ => h.block i hi⟩
theorem LettersAt.kept {w w' : World} {g b : Nat} {X : List UInt8} (h : LettersAt w g X) (hg : w.grownBy w' (some b)) (hne : g ≠ b) : LettersAt w' g X :=
  ⟨Nat.lt_of_lt_of_le h.1 hg.size, fun j hj => hg.cell (h.2 j hj) (by intro e; exact hne (Option.some.inj e))⟩
theorem BoxS.kept {w w' : World} {q b : Nat} {p vs : ByteArray} {v : Value} (h : BoxS w q p vs v) (hg : w.grownBy w' (some b)) (hne : q ≠ b) : BoxS w' q p vs v :=
  (hg.block q h.lt (by intro e; exact hne (Option.some.inj e))).trans h
/-- The lengths chosen lie at the beginning of a list with room for all. -/
abbrev RowL (w : World) (B b cap : Nat) (lens : List Nat) : Prop := w.ownsRow B 3 1 (.slice (some ⟨b, 0, none⟩) lens.length cap) lens.length (lens.map fun (n : Nat) => Value.int .i64 (n : Int))
theorem RowL.at {w : World} {B b cap : Nat} {lens : List Nat} (h : RowL w B b cap lens) {j : Nat} (hj : j < lens.length) : w.cell? ⟨b, j, none⟩ = some (.int .i64 ((lens[j]'hj : Nat) : Int)) := by
  rw [h.cellAt j (by omega), List.getElem?_map, List.getElem?_eq_getElem hj]; rfl
theorem RowL.lt' {w : World} {B b cap : Nat} {lens : List Nat} (h : RowL w B b cap lens) : b < w.heap.size ∧ B ≤ b := by
  obtain ⟨_, ⟨e, _⟩ | ⟨g, cap', cur, e, hg, hh, _⟩⟩ := h
  · cases e
  · simp only [Value.slice.injEq, Option.some.injEq, Addr.mk.injEq, true_and, and_true] at e
    obtain ⟨rfl, _⟩ := e
    exact ⟨(Array.getElem?_eq_some_iff.1 hh).1, hg⟩
theorem RowL.snoc {w : World} {B b cap : Nat} {lens : List Nat} {n : Nat} (h : w.ownsRow B 3 1 (.slice (some ⟨b, 0, none⟩) (lens.length + 1) cap) (lens.length + 1) (lens.map (fun (n : Nat) => Value.int .i64 (n : Int)) ++ [.int .i64 (n : Int)])) : RowL w B b cap (lens ++ [n]) := by
  unfold RowL
  rw [List.length_append, List.map_append]
  exact h
theorem RowL.cut {w : World} {B b cap : Nat} {lens : List Nat} {n : Nat} (h : RowL w B b cap (lens ++ [n])) : RowL w B b cap lens := by
  obtain ⟨hl, ⟨e, _⟩ | ⟨g, cap', cur, e, hg, hh, hn, hc, hcs, hx⟩⟩ := h
  · cases e
  · simp only [Value.slice.injEq, Option.some.injEq, Addr.mk.injEq, true_and, and_true] at e
    obtain ⟨rfl, rfl⟩ := e
    rw [List.length_append, List.length_singleton] at hn
    refine ⟨by simp, .inr ⟨b, cap, cur, rfl, hg, hh, by omega, hc, hcs, ?_⟩⟩
    have h2 := congrArg (List.take lens.length) hx
    rw [List.take_take, List.length_append, List.map_append, List.take_append_of_le_length (by simp)] at h2
    rw [Nat.mul_one]
    rw [Nat.min_eq_left (by simp)] at h2
    rw [h2, List.take_of_length_le (by simp)]
theorem RowL.keptB {w w' : World} {B b cap : Nat} {lens : List Nat} (h : RowL w B b cap lens) (hb : Below w.heap.size w w') : RowL w' B b cap lens := own_below h hb
theorem FitEnd.base {i g : Nat} {X : List UInt8} {vs : List Nat} {B B' : Nat} {r : Option (Nat → List UInt8)} {e : Ending} {w' : World} (h : FitEnd i g X vs B r e w') (hB : B' ≤ B) : FitEnd i g X vs B' r e w' := by
  cases r with
  | none => exact h
  | some W =>
    obtain ⟨v, rfl, q, O, rfl, hT, r⟩ := h
    exact ⟨_, rfl, q, O, rfl, own_base hT hB, r⟩
theorem slice_fromZ (x : ByteArray) (z : Int) (n : Nat) (hz : z = n) (h : n ≤ x.size) (W : World) :
    (Instr.slice 9 (.string x) (some (.int .i64 z)) none none).run Tryd.prog W = .ok (.string (x.extract n x.size)) W := by
  subst hz
  have := run_slice_string_l (P := Tryd.prog) W 9 x Tryd.underlying9 .i64 (n : Int) (by omega) (by omega)
  simpa using this
theorem slice_fromT (x : ByteArray) (n : Nat) (h : n ≤ x.size) (W : World) :
    (Instr.slice 9 (.string x) (some (.int .i64 (n : Int))) none none).run Tryd.prog W = .ok (.string (x.extract n x.size)) W := slice_fromZ x (n : Int) n rfl h W
theorem step_append_fits {P : Program} {ops : Array Oper} {o : Oper} {a : Act} (w : World) {K : Act → World → Prop} {Q : Exit → Act → World → Prop} {E : Prop} (hgd : o.guard = none) (s x : Operand) (t : TypeId)
    (ho : o.op = Op.call { callee := Callee.builtin Builtin.append, args := #[s, x], argTypes := #[t, t] })
    (base : Nat) (e : TypeId) (i : TypeInfo) (size : Nat) (h1 : P.underlying t = some (.slice e)) (h2 : P.info? e = some i) (h4 : i.size = size)
    (g k cap : Nat) (xs : List Value) (hs : a.eval s = .slice (some ⟨g, 0, none⟩) k cap) (hown : w.ownsRow base e size (.slice (some ⟨g, 0, none⟩) k cap) k xs) (ad : Addr) (m c : Nat) (news : List Value) (hx : a.eval x = .slice (some ad) m c) (hn : news.length = m * size)
    (hc : ∀ j u, news[j]? = some u → w.cell? (ad.add j) = some u) (h1c : ∀ u ∈ news, u.oneCell' = true) (b1 : k + m ≤ cap)
    (hK : ∀ w', w'.ownsRow base e size (.slice (some ⟨g, 0, none⟩) (k + m) cap) (k + m) (xs ++ news) → w.grownBy w' (some g) → K (a.put o.dst (.slice (some ⟨g, 0, none⟩) (k + m) cap)) w') :
    if Region.wanted o (yielded ops a.tmps) = true then Oper.wp P o a w K Q else E := by
  have hw : Region.wanted o (yielded ops a.tmps) = true := by simp [Region.wanted, hgd]
  rw [if_pos hw]
  obtain ⟨w', hrun, r1, r2⟩ := run_append_fits (P := P) w base t o.type e i size h1 h2 h4 g k cap xs hown ad m c news hn hc h1c b1
  unfold Oper.wp
  simp [execOp, ho, resolve, invoke, builtin, hs, hx, hrun, Result.andThen]
  exact hK w' r1 r2
/-- Nothing is found below m. -/
def NoneTo {β : Type} (F : Nat → Option β) (m : Nat) : Prop := ∀ k, 1 ≤ k → k < m → F k = none
/-- One length more. -/
theorem lnF_snoc {vs pre rest lens : List Nat} {v n : Nat} (hnd : vs.Nodup) (hvs : vs = pre ++ v :: rest) (hl : lens.length = pre.length) : lnF vs (lens ++ [n]) = updV (lnF vs lens) v n := by
  have hv : vs.idxOf v = pre.length := by
    rw [hvs, List.idxOf_append]
    have : v ∉ pre := by
      rw [hvs, List.nodup_append] at hnd
      intro q
      exact hnd.2.2 v q v (List.mem_cons_self ..) rfl
    rw [if_neg this]; simp
  funext u
  unfold lnF
  by_cases e : u = v
  · rw [e, updV_at, hv, ← hl]; simp
  · rw [updV_ne _ _ e]
    have hne : vs.idxOf u ≠ lens.length := by
      intro q
      by_cases hm : u ∈ vs
      · have h1 := List.getElem_idxOf (List.idxOf_lt_length_of_mem hm)
        have h2 := List.getElem_idxOf (xs := vs) (x := v) (List.idxOf_lt_length_of_mem (by rw [hvs]; simp))
        apply e
        rw [← h1, ← h2]
        congr 1
        rw [q, hv, hl]
      · have h1 := List.idxOf_eq_length hm
        rw [h1, hvs, List.length_append, List.length_cons] at q
        omega
    rw [List.getD_eq_getElem?_getD, List.getD_eq_getElem?_getD]
    by_cases q : vs.idxOf u < lens.length
    · rw [List.getElem?_append_left q]
    · rw [List.getElem?_eq_none (by simp; omega), List.getElem?_eq_none (by omega)]
theorem lnF_rest {vs pre rest lens : List Nat} (hnd : vs.Nodup) (hvs : vs = pre ++ rest) (hl : lens.length = pre.length) : ∀ u ∈ rest, lnF vs lens u = 0 := by
  intro u hu
  unfold lnF
  have : vs.idxOf u ≥ lens.length := by
    rw [hvs, List.idxOf_append]
    have : u ∉ pre := by
      rw [hvs, List.nodup_append] at hnd
      intro q
      exact hnd.2.2 u q u hu rfl
    rw [if_neg this]; omega
  rw [List.getD_eq_getElem?_getD, List.getElem?_eq_none this]; rfl
theorem count_vs {v : Nat} (hv : v ≤ 2) : ∀ P : List UInt8, IsPL P → Lib.countByte P (vsE v) = cntV P v
  | [], _ => rfl
  | c :: P, hP => by
    have ih := count_vs hv P hP.tail
    unfold Lib.countByte at ih ⊢
    rw [List.count_cons, ih, cntV_cons]
    have h := vsE_iff hv (hP c (List.mem_cons_self ..))
    by_cases e : vn c = v
    · have e2 := h.2 e.symm
      rw [if_pos e, if_pos (by rw [e2]; simp)]; omega
    · have e2 : ¬ vsE v = c := fun q => e (h.1 q).symm
      rw [if_neg e, if_neg (by simp; exact fun q => e2 q.symm)]; omega
theorem vs_others (P : List UInt8) (k : Nat) : bl ((vsT P).extract k (vsT P).size) = ((vsOf P).drop k).map vsE := by
  rw [bl_drop]
  show (vsB P).drop k = _
  unfold vsB
  rw [List.map_drop]


set_option maxRecDepth 100000 in
set_option maxHeartbeats 8000000 in
theorem tryLengths_any (p : ByteArray) (hp : IsP p) (g cX : Nat) (X : List UInt8) (place : Nat) (hXl : X.length ≤ 60) (hcX : X.length ≤ cX) (B b : Nat) (hgb : g ≠ b) :
    ∀ (rest pre lens : List Nat) (left : Nat) (w : World), vsOf (bl p) = pre ++ rest → lens.length = pre.length → rest ≠ [] → (∀ n ∈ lens, 1 ≤ n) → place + totL (lnF (vsOf (bl p)) lens) (bl p) + left ≤ X.length →
    LettersAt w g X → RowL w B b (vsOf (bl p)).length lens →
    Calls Tryd.prog 181 #[srchV p (vsT (bl p)) g X.length cX, .int .i64 (place : Int), .int .i64 (left : Int), .slice (some ⟨b, 0, none⟩) lens.length (vsOf (bl p)).length] w fun e w' =>
      FitEnd place g X (vsOf (bl p)) w.heap.size (srch (X.drop place) (bl p) rest (lnF (vsOf (bl p)) lens) left) e w' ∧ w.grownBy w' (some b) ∧ RowL w' B b (vsOf (bl p)).length lens
  | [], _, _, _, _, _, _, h, _, _, _, _ => absurd rfl h
  | v :: rest, pre, lens, left, w, hvs, hl, _, hpos, htot, hX, hrow => by
    obtain ⟨i0, hi, hz0, hz1, hz2⟩ := info_parts infoInt10
    have hmo : Tryd.prog.follows .mixedOrders = true := by kernel_rfl
    have hP := hp.list
    have hp8 := hp.2.1
    have hk3 := vsOf_len (bl p)
    have hnd := vsOf_nodup (bl p)
    have hvm : v ∈ vsOf (bl p) := by rw [hvs]; simp
    have hv2 := vsOf_two v hvm
    have hc0 := (vsOf_mem.1 hvm).2
    have hcl : cntV (bl p) v ≤ 8 := by
      have := List.length_filter_le (fun c => decide (vn c = v)) (bl p)
      rw [bl_len] at this
      unfold cntV; omega
    have hsn := fun n => lnF_snoc (n := n) hnd hvs hl
    have hz := lnF_rest hnd hvs hl v (List.mem_cons_self ..)
    have hot := vs_others (bl p) lens.length
    have hdr : (vsOf (bl p)).drop lens.length = v :: rest := by rw [hvs, hl, List.drop_left]
    rw [hdr, List.map_cons] at hot
    have hlen : (vsOf (bl p)).length = lens.length + (rest.length + 1) := by rw [hvs, List.length_append, List.length_cons, hl]
    obtain ⟨y, hy⟩ : ∃ y, (vsT (bl p)).extract lens.length (vsT (bl p)).size = y := ⟨_, rfl⟩
    rw [hy] at hot
    have hys : y.size = rest.length + 1 := by rw [← bl_len, hot]; simp
    have hvt := vsT_size (bl p)
    have hy1 : y.extract 0 1 = ⟨#[vsE v]⟩ := by
      apply bl_inj
      rw [bl_take, hot]; rfl
    have CC := Lib.hid (fun W => by
      have h := Tryd.strings_Count_one p (vsE v) W
      have e : Lib.countByte p.data.toList (vsE v) = cntV (bl p) v := count_vs hv2 (bl p) hP
      rw [e, ← hy1] at h
      exact h)
    obtain ⟨c, hc⟩ : ∃ c, cntV (bl p) v = c := ⟨_, rfl⟩
    rw [hc] at hc0 hcl CC
    obtain ⟨T, hT⟩ : ∃ T, totL (lnF (vsOf (bl p)) lens) (bl p) = T := ⟨_, rfl⟩
    rw [hT] at htot
    have hst : ∀ n, totL (lnF (vsOf (bl p)) (lens ++ [n])) (bl p) = T + n * c := fun n => by rw [hsn n, totL_upd _ _ _ hz, hT, hc]
    have hbl := hrow.lt'
    have hslice : ∀ W, (Instr.slice 9 (.string (vsT (bl p))) (some (.int .i64 (lens.length : Int))) none none).run Tryd.prog W = .ok (.string y) W := fun W => by rw [← hy]; exact slice_fromT _ _ (by omega) W
    have HS := Lib.hid hslice
    have HSN := Lib.hid hsn
    have HST := Lib.hid hst
    have HP := Lib.hid hP
    have HVS := Lib.hid hvs
    have HL := Lib.hid hl
    have HPOS := Lib.hid hpos
    have HX := Lib.hid hX
    have HROW := Lib.hid hrow
    have HC := Lib.hid hc
    have HT := Lib.hid hT
    have HLEN := Lib.hid hlen
    have HYS := Lib.hid hys
    clear hsn hst hP hvs hl hpos hX hrow hc hT hot hdr hlen hy hy1 hvt hz hnd hvm hys hslice
    have hsl := fun W => HS.out W
    cases rest with
    | nil =>
      obtain ⟨q, hq⟩ : ∃ q, left / c = q := ⟨_, rfl⟩
      have hqi : (left : Int) / (c : Int) = (q : Int) := by rw [← hq]; exact (Int.natCast_ediv left c).symm
      have hqt : (left : Int).tdiv (c : Int) = (q : Int) := by rw [Int.tdiv_eq_ediv_of_nonneg (by omega)]; exact hqi
      have hqc : q * c ≤ left := by rw [← hq]; exact Nat.div_mul_le_self left c
      have hql : q ≤ left := by rw [← hq]; exact Nat.div_le_self left c
      have hsr := srch_last (R := X.drop place) (P := bl p) (v := v) (L := lnF (vsOf (bl p)) lens) (left := left) (by rw [HC.out]; exact hc0)
      rw [HC.out, hq] at hsr
      have hl60 : left ≤ 60 := by omega
      have hys1 : ((y.size : Int) == 1) = true := by rw [beq_iff_eq]; have := HYS.out; simp at this; omega
      have hy1 : 1 ≤ y.size := by have := HYS.out; omega
      have HSR := Lib.hid hsr
      have HQ := Lib.hid hq
      clear hsr hq
      go_enter Tryd.func181, Tryd.ntmps181
      go_wp2_with fail
      go_quiet ((go_at_call 192; exact Calls.quiet_of_same (CC.out _)))
      by_cases h1 : 0 < q
      · by_cases h2 : q * c = left
        · have CV := Lib.hid (fun (W : World) (h1 : LettersAt W g X) (h2 : RowL W B b (vsOf (bl p)).length (lens ++ [q])) => by
            have h := tryValues_any p hp g cX X place (lens ++ [q]) b (vsOf (bl p)).length W h1 hXl hcX (by rw [List.length_append, HLEN.out]; simp) h2.lt'.1 (fun j hj => h2.at hj) (by rw [List.length_append, HLEN.out]; simp) (fun n hn => by rcases List.mem_append.1 hn with hn | hn; exact HPOS.out n hn; rw [List.mem_singleton] at hn; omega) (by rw [HST.out]; omega)
            rw [List.length_append, List.length_singleton] at h
            exact h)
          have hend : srch (X.drop place) (bl p) [v] (lnF (vsOf (bl p)) lens) left = giv (lnF (vsOf (bl p)) (lens ++ [q])) (bl p) (X.drop place) (fun _ => []) := by rw [HSR.out, if_pos ⟨h1, h2⟩, HSN.out]
          have HEND := Lib.hid hend
          have hlc : lens.length + 1 ≤ (vsOf (bl p)).length := by have := HLEN.out; omega
          have HBX := Lib.hid (fun (W : World) (hb : Below (w.heap.size + 1) (w.alloc (.cells #[.string p, .string (vsT (bl p)), .slice (some ⟨g, 0, none⟩) X.length cX] 142)) W) => (BoxS.new w p (vsT (bl p)) (.slice (some ⟨g, 0, none⟩) X.length cX)).past hb (by omega))
          clear hend
          go_wp2_with fail
          refine wp_region_held_drew (S := fun W => BoxS W w.heap.size p (vsT (bl p)) (.slice (some ⟨g, 0, none⟩) X.length cX)) (by kernel_rfl) (HBX.out _ (((Below.refl _ _).drewN nq).drew)) (fun hH => ?_)
          refine wpAnyH_take (i := 0) (v := ?_) rfl (by kernel_rfl) (by kernel_rfl) (by kernel_rfl) (fun _ _ _ h => h) (Or.inl ⟨by rfl, ?_⟩) hH ?_
          rotate_left 1
          · intro w hSw; have k0 := BoxS.c0 hSw; have k1 := BoxS.c1 hSw; have k2 := BoxS.c2 hSw; go_simp <;> with_reducible rfl
          try simp only [List.getElem_toArray, List.getElem_cons_succ, List.getElem_cons_zero, Act.put, List.setIfInBounds_toArray, List.set_cons_zero, List.set_cons_succ]
          refine wpAnyH_take (i := 1) (v := ?_) rfl (by kernel_rfl) (by kernel_rfl) (by kernel_rfl) (fun _ _ _ h => h) (Or.inl ⟨by rfl, ?_⟩) hH ?_
          rotate_left 1
          · intro w hSw; have k0 := BoxS.c0 hSw; have k1 := BoxS.c1 hSw; have k2 := BoxS.c2 hSw; go_simp <;> with_reducible rfl
          try simp only [List.getElem_toArray, List.getElem_cons_succ, List.getElem_cons_zero, Act.put, List.setIfInBounds_toArray, List.set_cons_zero, List.set_cons_succ]
          refine wpAnyH_take (i := 2) (v := ?_) rfl (by kernel_rfl) (by kernel_rfl) (by kernel_rfl) (fun _ _ _ h => h) (Or.inl ⟨by rfl, ?_⟩) hH ?_
          rotate_left 1
          · intro w hSw; have k0 := BoxS.c0 hSw; have k1 := BoxS.c1 hSw; have k2 := BoxS.c2 hSw; go_simp <;> with_reducible rfl
          try simp only [List.getElem_toArray, List.getElem_cons_succ, List.getElem_cons_zero, Act.put, List.setIfInBounds_toArray, List.set_cons_zero, List.set_cons_succ]
          refine wpAnyH_take (i := 3) (v := ?_) rfl (by kernel_rfl) (by kernel_rfl) (by kernel_rfl) (fun _ _ _ h => h) (Or.inl ⟨by rfl, ?_⟩) hH ?_
          rotate_left 1
          · intro w hSw; have k0 := BoxS.c0 hSw; have k1 := BoxS.c1 hSw; have k2 := BoxS.c2 hSw; go_simp <;> with_reducible rfl
          try simp only [List.getElem_toArray, List.getElem_cons_succ, List.getElem_cons_zero, Act.put, List.setIfInBounds_toArray, List.set_cons_zero, List.set_cons_succ]
          obtain ⟨W1, hW1⟩ : ∃ W1, ((w.alloc (.cells #[.string p, .string (vsT (bl p)), .slice (some ⟨g, 0, none⟩) X.length cX] 142)).drewN nq).drew = W1 := ⟨_, rfl⟩
          have hB1 : Below w.heap.size w W1 := by rw [← hW1]; exact ((Below.new w _).drewN nq).drew
          have hs1 : w.heap.size < W1.heap.size := by rw [← hW1]; simp
          rw [hW1] at hH ⊢
          have HW1 := Lib.hid hW1
          clear hW1
          refine wpAnyH_ready (rs := [4]) (by kernel_rfl) (by simp) ?_
          refine AllReadyH.cons rfl (fun K hK => ?_) AllReadyH.nil
          go_simp
          have hrow2 := (HROW.out.keptB hB1).alloc (.cells #[.int .i64 (q : Int)] 3)
          have hH2 := BoxS.kept hH (World.grownBy_alloc W1 (.cells #[.int .i64 (q : Int)] 3) (some b)) (by omega)
          refine hK.out _ _ hH2 (fun _ => ?_)
          clear hK K
          try simp only [List.getElem_toArray, List.getElem_cons_succ, List.getElem_cons_zero, Act.put, List.setIfInBounds_toArray, List.set_cons_zero, List.set_cons_succ]
          refine wpAnyH_ready (rs := [5]) (by kernel_rfl) (by simp) ?_
          refine AllReadyH.cons rfl (fun K hK => ?_) AllReadyH.nil
          refine step_append_fits _ (by rfl) _ _ 47 (by rfl) B 3 i0 1 Tryd.underlying47 hi hz1 b lens.length (vsOf (bl p)).length _ (by rfl) hrow2 ⟨W1.heap.size, 0, none⟩ 1 1 [.int .i64 (q : Int)] (by rfl) (by rfl) (cell_new _ _ _) (by simp [Value.oneCell']) (by omega) ?_
          intro w2 hown2 hgrow2
          have hH3 := BoxS.kept hH2 hgrow2 (by omega)
          refine hK.out _ _ hH3 (fun _ => ?_)
          clear hK K
          try simp only [List.getElem_toArray, List.getElem_cons_succ, List.getElem_cons_zero, Act.put, List.setIfInBounds_toArray, List.set_cons_zero, List.set_cons_succ]
          have hrow3 : RowL w2 B b (vsOf (bl p)).length (lens ++ [q]) := RowL.snoc hown2
          have hg1 : w.grownBy w2 (some b) := ((grown_belowT hB1).then' (World.grownBy_alloc W1 _ _)).then' hgrow2
          have hX2 := HX.out.kept hg1 hgb
          refine wpAnyH_ready (rs := [6]) (by kernel_rfl) (by simp) ?_
          refine AllReadyH.cons rfl (fun K hK => ?_) AllReadyH.nil
          go_simp
          (with_reducible refine (CV.out _ hX2 hrow3).mono ?_)
          rintro e w3 ⟨hfe, hb3⟩
          have hrow4 : RowL w3 B b (vsOf (bl p)).length lens := (hrow3.keptB hb3).cut
          have hg3 : w.grownBy w3 (some b) := hg1.then' (grown_belowT hb3)
          cases hgv : giv (lnF (vsOf (bl p)) (lens ++ [q])) (bl p) (X.drop place) (fun _ => []) with
          | none =>
            rw [hgv] at hfe
            obtain rfl : e = .returned (.tuple #[]) := hfe
            have hH4 := hH3.past hb3 (by have := hgrow2.size; simp at this; omega)
            have HGV := Lib.hid hgv
            clear hgv
            go_wp2_with fail
            refine hK.out _ _ hH4 (fun _ => ?_)
            clear hK K
            refine wpAnyH_done (by kernel_rfl) ?_ _
            go_wp2_with fail
            refine bodyPost_ret (results_none rfl _ _ _) rfl ?_
            exact ⟨by rw [HEND.out, HGV.out]; rfl, hg3, hrow4⟩
          | some W =>
            rw [hgv] at hfe
            obtain ⟨v1, rfl, hown3⟩ := hfe
            have HGV := Lib.hid hgv
            clear hgv
            go_wp2_with fail
            exact ⟨rfl, by rw [HEND.out, HGV.out]; exact FitEnd.base (r := some W) ⟨v1, rfl, hown3⟩ hg1.size, hg3, hrow4⟩
        · have hend : srch (X.drop place) (bl p) [v] (lnF (vsOf (bl p)) lens) left = none := by rw [HSR.out, if_neg (fun e => h2 e.2)]
          have HEND := Lib.hid hend
          have h2' : ((q : Int) * (c : Int) == (left : Int)) = false := by
            rw [beq_eq_false_iff_ne]
            intro e
            apply h2
            have e1 : ((q * c : Nat) : Int) = (q : Int) * (c : Int) := Int.natCast_mul q c
            omega
          clear hend
          go_wp2_with fail
          refine bodyPost_ret (results_none rfl _ _ _) rfl ?_
          have hB1 : Below w.heap.size w ((w.alloc (.cells #[.string p, .string (vsT (bl p)), .slice (some ⟨g, 0, none⟩) X.length cX] 142)).drewN nq) := (Below.new w _).drewN nq
          exact ⟨by rw [HEND.out]; rfl, grown_belowT hB1, HROW.out.keptB hB1⟩
      · have hend : srch (X.drop place) (bl p) [v] (lnF (vsOf (bl p)) lens) left = none := by rw [HSR.out, if_neg (fun e => h1 e.1)]
        have HEND := Lib.hid hend
        clear hend
        go_wp2_with fail
        refine bodyPost_ret (results_none rfl _ _ _) rfl ?_
        have hB1 : Below w.heap.size w ((w.alloc (.cells #[.string p, .string (vsT (bl p)), .slice (some ⟨g, 0, none⟩) X.length cX] 142)).drewN nq) := (Below.new w _).drewN nq
        exact ⟨by rw [HEND.out]; rfl, grown_belowT hB1, HROW.out.keptB hB1⟩
    | cons u rest =>
      have hl60 : left ≤ 60 := by omega
      have hys2 : 2 ≤ y.size := by have := HYS.out; simp at this; omega
      have hyn : ((y.size : Int) == 1) = false := by rw [beq_eq_false_iff_ne]; omega
      have HVS2 : Hid (vsOf (bl p) = (pre ++ [v]) ++ u :: rest) := Lib.hid (by rw [HVS.out]; simp)
      obtain ⟨F, hF⟩ : ∃ F : Nat → Option (Nat → List UInt8), (fun n => if n * c ≤ left then srch (X.drop place) (bl p) (u :: rest) (lnF (vsOf (bl p)) (lens ++ [n])) (left - n * c) else none) = F := ⟨_, rfl⟩
      have hsr : srch (X.drop place) (bl p) (v :: u :: rest) (lnF (vsOf (bl p)) lens) left = (List.range' 1 left).findSome? F := by
        rw [srch, ← hF, HC.out]
        refine fsome_congr fun n _ => ?_
        rw [HSN.out]
      have HSR := Lib.hid hsr
      have HF := Lib.hid hF
      have hbz : w.heap.size ≠ b := by omega
      have HBX := Lib.hid (fun (W : World) (hb : Below (w.heap.size + 1) (w.alloc (.cells #[.string p, .string (vsT (bl p)), .slice (some ⟨g, 0, none⟩) X.length cX] 142)) W) => (BoxS.new w p (vsT (bl p)) (.slice (some ⟨g, 0, none⟩) X.length cX)).past hb (by omega))
      have hlc : lens.length + 1 ≤ (vsOf (bl p)).length := by have := HLEN.out; simp at this; omega
      clear hsr hF
      go_enter Tryd.func181, Tryd.ntmps181
      go_wp2_with fail
      go_quiet ((go_at_call 192; exact Calls.quiet_of_same (CC.out _)))
      go_wp2_with fail
      have hB1 : Below w.heap.size w ((w.alloc (.cells #[.string p, .string (vsT (bl p)), .slice (some ⟨g, 0, none⟩) X.length cX] 142)).drewN nq) := (Below.new w _).drewN nq
      have hbx1 := HBX.out _ ((Below.refl (w.heap.size + 1) (w.alloc (.cells #[.string p, .string (vsT (bl p)), .slice (some ⟨g, 0, none⟩) X.length cX] 142))).drewN nq)
      have HG1 := Lib.hid (grown_belowT (b := b) hB1)
      have HR1 := Lib.hid (HROW.out.keptB hB1)
      have HX1 := Lib.hid hbx1
      clear hB1 hbx1
      go_loopw [11] (fun s11 wr => ∃ m : Nat, 1 ≤ m ∧ m ≤ left + 1 ∧ s11 = .int .i64 (m : Int) ∧ NoneTo F m ∧ w.grownBy wr (some b) ∧ RowL wr B b (vsOf (bl p)).length lens ∧
          BoxS wr w.heap.size p (vsT (bl p)) (.slice (some ⟨g, 0, none⟩) X.length cX)) (fun s11 _ => left + 1 - (intOf s11).toNat)
      case atStart => exact ⟨1, Nat.le_refl _, by omega, rfl, fun k a b => by omega, HG1.out, HR1.out, HX1.out⟩
      case round =>
        obtain ⟨m, hm1, hm2, rfl, hno, hgr, hrw, hbx⟩ := hrel
        have HNO := Lib.hid hno
        have HGR := Lib.hid hgr
        have HRW := Lib.hid hrw
        have hlt0 := hbx.lt
        have HBX2 := Lib.hid hbx
        have emc : ((m * c : Nat) : Int) = (m : Int) * (c : Int) := Int.natCast_mul m c
        have hmc1 : m * c ≤ 61 * 8 := Nat.mul_le_mul (by omega) hcl
        have hmm : m ≤ m * c := Nat.le_mul_of_pos_right m hc0
        clear hno hgr hrw hbx
        by_cases hlt : m * c < left
        · have hltd : decide ((m : Int) * (c : Int) < (left : Int)) = true := by rw [decide_eq_true_eq]; omega
          have hltp : (m : Int) * (c : Int) < (left : Int) := by omega
          have hm0 : 0 ≤ (m : Int) * (c : Int) := by omega
          have hw1 : IntKind.i64.wrap ((m : Int) * (c : Int)) = (m : Int) * (c : Int) := IntWalk.i64_in _ (by omega)
          have hw2 : IntKind.i64.wrap ((left : Int) - (m : Int) * (c : Int)) = (left : Int) - (m : Int) * (c : Int) := IntWalk.i64_in _ (by omega)
          have hsub : ((left - m * c : Nat) : Int) = (left : Int) - (m : Int) * (c : Int) := by omega
          have CI := Lib.hid (fun (W : World) (h1 : LettersAt W g X) (h2 : RowL W B b (vsOf (bl p)).length (lens ++ [m])) => by
            have h := tryLengths_any p hp g cX X place hXl hcX B b hgb (u :: rest) (pre ++ [v]) (lens ++ [m]) (left - m * c) W HVS2.out (by rw [List.length_append, List.length_append, HL.out]; rfl) (by simp)
              (fun n hn => by rcases List.mem_append.1 hn with hn | hn; exact HPOS.out n hn; rw [List.mem_singleton] at hn; omega) (by rw [HST.out]; omega) h1 h2
            rw [List.length_append, List.length_singleton, hsub] at h
            exact h)
          have hFm : F m = srch (X.drop place) (bl p) (u :: rest) (lnF (vsOf (bl p)) (lens ++ [m])) (left - m * c) := by rw [← HF.out]; exact if_pos (by omega)
          have HFM := Lib.hid hFm
          have HSUB := Lib.hid hsub
          have HEMC := Lib.hid emc
          have hml : m ≤ left := by omega
          clear hFm hsub emc
          go_wp2_with fail
          refine wp_region_held_drew (S := fun W => BoxS W w.heap.size p (vsT (bl p)) (.slice (some ⟨g, 0, none⟩) X.length cX)) (by kernel_rfl) (HBX2.out.past (Below.refl _ _).drew hlt0) (fun hH => ?_)
          refine wpAnyH_take (i := 0) (v := ?_) rfl (by kernel_rfl) (by kernel_rfl) (by kernel_rfl) (fun _ _ _ h => h) (Or.inl ⟨by rfl, ?_⟩) hH ?_
          rotate_left 1
          · intro w hSw; have k0 := BoxS.c0 hSw; have k1 := BoxS.c1 hSw; have k2 := BoxS.c2 hSw; go_simp <;> with_reducible rfl
          try simp only [List.getElem_toArray, List.getElem_cons_succ, List.getElem_cons_zero, Act.put, List.setIfInBounds_toArray, List.set_cons_zero, List.set_cons_succ]
          refine wpAnyH_take (i := 1) (v := ?_) rfl (by kernel_rfl) (by kernel_rfl) (by kernel_rfl) (fun _ _ _ h => h) (Or.inl ⟨by rfl, ?_⟩) hH ?_
          rotate_left 1
          · intro w hSw; have k0 := BoxS.c0 hSw; have k1 := BoxS.c1 hSw; have k2 := BoxS.c2 hSw; go_simp <;> with_reducible rfl
          try simp only [List.getElem_toArray, List.getElem_cons_succ, List.getElem_cons_zero, Act.put, List.setIfInBounds_toArray, List.set_cons_zero, List.set_cons_succ]
          refine wpAnyH_take (i := 2) (v := ?_) rfl (by kernel_rfl) (by kernel_rfl) (by kernel_rfl) (fun _ _ _ h => h) (Or.inl ⟨by rfl, ?_⟩) hH ?_
          rotate_left 1
          · intro w hSw; have k0 := BoxS.c0 hSw; have k1 := BoxS.c1 hSw; have k2 := BoxS.c2 hSw; go_simp <;> with_reducible rfl
          try simp only [List.getElem_toArray, List.getElem_cons_succ, List.getElem_cons_zero, Act.put, List.setIfInBounds_toArray, List.set_cons_zero, List.set_cons_succ]
          refine wpAnyH_take (i := 3) (v := ?_) rfl (by kernel_rfl) (by kernel_rfl) (by kernel_rfl) (fun _ _ _ h => h) (Or.inl ⟨by rfl, ?_⟩) hH ?_
          rotate_left 1
          · intro w hSw; have k0 := BoxS.c0 hSw; have k1 := BoxS.c1 hSw; have k2 := BoxS.c2 hSw; go_simp <;> with_reducible rfl
          try simp only [List.getElem_toArray, List.getElem_cons_succ, List.getElem_cons_zero, Act.put, List.setIfInBounds_toArray, List.set_cons_zero, List.set_cons_succ]
          refine wpAnyH_take (i := 4) (v := ?_) rfl (by kernel_rfl) (by kernel_rfl) (by kernel_rfl) (fun _ _ _ h => h) (Or.inl ⟨by rfl, ?_⟩) hH ?_
          rotate_left 1
          · intro w hSw; have k0 := BoxS.c0 hSw; have k1 := BoxS.c1 hSw; have k2 := BoxS.c2 hSw; go_simp <;> with_reducible rfl
          try simp only [List.getElem_toArray, List.getElem_cons_succ, List.getElem_cons_zero, Act.put, List.setIfInBounds_toArray, List.set_cons_zero, List.set_cons_succ]
          refine wpAnyH_take (i := 5) (v := ?_) rfl (by kernel_rfl) (by kernel_rfl) (by kernel_rfl) (fun _ _ _ h => h) (Or.inl ⟨by rfl, ?_⟩) hH ?_
          rotate_left 1
          · intro w hSw; have k0 := BoxS.c0 hSw; have k1 := BoxS.c1 hSw; have k2 := BoxS.c2 hSw; go_simp <;> with_reducible rfl
          try simp only [List.getElem_toArray, List.getElem_cons_succ, List.getElem_cons_zero, Act.put, List.setIfInBounds_toArray, List.set_cons_zero, List.set_cons_succ]
          refine wpAnyH_take (i := 6) (v := ?_) rfl (by kernel_rfl) (by kernel_rfl) (by kernel_rfl) (fun _ _ _ h => h) (Or.inl ⟨by rfl, ?_⟩) hH ?_
          rotate_left 1
          · intro w hSw; have k0 := BoxS.c0 hSw; have k1 := BoxS.c1 hSw; have k2 := BoxS.c2 hSw; go_simp <;> with_reducible rfl
          try simp only [List.getElem_toArray, List.getElem_cons_succ, List.getElem_cons_zero, Act.put, List.setIfInBounds_toArray, List.set_cons_zero, List.set_cons_succ]
          refine wpAnyH_take (i := 7) (v := ?_) rfl (by kernel_rfl) (by kernel_rfl) (by kernel_rfl) (fun _ _ _ h => h) (Or.inl ⟨by rfl, ?_⟩) hH ?_
          rotate_left 1
          · intro w hSw; have k0 := BoxS.c0 hSw; have k1 := BoxS.c1 hSw; have k2 := BoxS.c2 hSw; go_simp <;> with_reducible rfl
          try simp only [List.getElem_toArray, List.getElem_cons_succ, List.getElem_cons_zero, Act.put, List.setIfInBounds_toArray, List.set_cons_zero, List.set_cons_succ]
          refine wpAnyH_take (i := 8) (v := ?_) rfl (by kernel_rfl) (by kernel_rfl) (by kernel_rfl) (fun _ _ _ h => h) (Or.inl ⟨by rfl, ?_⟩) hH ?_
          rotate_left 1
          · intro w hSw; have k0 := BoxS.c0 hSw; have k1 := BoxS.c1 hSw; have k2 := BoxS.c2 hSw; go_simp <;> with_reducible rfl
          try simp only [List.getElem_toArray, List.getElem_cons_succ, List.getElem_cons_zero, Act.put, List.setIfInBounds_toArray, List.set_cons_zero, List.set_cons_succ]
          have hB1 : Below wr.heap.size wr wr.drew := (Below.refl _ _).drew
          have hg0 : w.grownBy wr.drew (some b) := HGR.out.then' (grown_belowT hB1)
          refine wpAnyH_ready (rs := [9]) (by kernel_rfl) (by simp) ?_
          refine AllReadyH.cons rfl (fun K hK => ?_) AllReadyH.nil
          go_simp
          have hrow2 := (HRW.out.keptB hB1).alloc (.cells #[.int .i64 (m : Int)] 3)
          have hH2 := BoxS.kept hH (World.grownBy_alloc wr.drew (.cells #[.int .i64 (m : Int)] 3) (some b)) hbz
          refine hK.out _ _ hH2 (fun _ => ?_)
          clear hK K
          try simp only [List.getElem_toArray, List.getElem_cons_succ, List.getElem_cons_zero, Act.put, List.setIfInBounds_toArray, List.set_cons_zero, List.set_cons_succ]
          refine wpAnyH_ready (rs := [10]) (by kernel_rfl) (by simp) ?_
          refine AllReadyH.cons rfl (fun K hK => ?_) AllReadyH.nil
          refine step_append_fits _ (by rfl) _ _ 47 (by rfl) B 3 i0 1 Tryd.underlying47 hi hz1 b lens.length (vsOf (bl p)).length _ (by rfl) hrow2 ⟨wr.heap.size, 0, none⟩ 1 1 [.int .i64 (m : Int)] (by rfl) (by rfl) (cell_new _ _ _) (by simp [Value.oneCell']) (by omega) ?_
          intro w2 hown2 hgrow2
          have hH3 := BoxS.kept hH2 hgrow2 hbz
          refine hK.out _ _ hH3 (fun _ => ?_)
          clear hK K
          try simp only [List.getElem_toArray, List.getElem_cons_succ, List.getElem_cons_zero, Act.put, List.setIfInBounds_toArray, List.set_cons_zero, List.set_cons_succ]
          have hrow3 : RowL w2 B b (vsOf (bl p)).length (lens ++ [m]) := RowL.snoc hown2
          have hg1 : w.grownBy w2 (some b) := (hg0.then' (World.grownBy_alloc wr.drew _ _)).then' hgrow2
          have hX2 := HX.out.kept hg1 hgb
          refine wpAnyH_ready (rs := [11]) (by kernel_rfl) (by simp) ?_
          refine AllReadyH.cons rfl (fun K hK => ?_) AllReadyH.nil
          go_simp
          (with_reducible refine (CI.out _ hX2 hrow3).mono ?_)
          rintro e w3 ⟨hfe, hgr3, hrow4⟩
          have hrow5 : RowL w3 B b (vsOf (bl p)).length lens := RowL.cut hrow4
          have hg3 : w.grownBy w3 (some b) := hg1.then' hgr3
          cases hgv : srch (X.drop place) (bl p) (u :: rest) (lnF (vsOf (bl p)) (lens ++ [m])) (left - m * c) with
          | none =>
            rw [hgv] at hfe
            obtain rfl : e = .returned (.tuple #[]) := hfe
            have hH4 := BoxS.kept hH3 hgr3 hbz
            have HGV := Lib.hid hgv
            clear hgv
            go_wp2_with fail
            refine hK.out _ _ hH4 (fun _ => ?_)
            clear hK K
            refine wpAnyH_done (by kernel_rfl) ?_ _
            go_wp2_with fail
            go_roundw
            case rel => exact ⟨m + 1, by omega, by omega, by go_num, fun k a b => by
              by_cases e : k < m
              · exact HNO.out k a e
              · rw [show k = m by omega, HFM.out, HGV.out], hg3, hrow5, hH4⟩
            case measure => simp [intOf]; omega
          | some W =>
            rw [hgv] at hfe
            obtain ⟨v1, rfl, hown3⟩ := hfe
            have HGV := Lib.hid hgv
            clear hgv
            go_wp2_with fail
            exact ⟨rfl, by rw [HSR.out, seek_at HNO.out hm1 hml (by rw [HFM.out, HGV.out])]; exact FitEnd.base (r := some W) ⟨v1, rfl, hown3⟩ hg1.size, hg3, hrow5⟩
        · have hltd : decide ((m : Int) * (c : Int) < (left : Int)) = false := by rw [decide_eq_false_iff_not]; omega
          have hltp : ¬ (m : Int) * (c : Int) < (left : Int) := by omega
          have hend : srch (X.drop place) (bl p) (v :: u :: rest) (lnF (vsOf (bl p)) lens) left = none := by
            rw [HSR.out]
            refine seek_none fun k a b => ?_
            by_cases e : k < m
            · exact HNO.out k a e
            · rw [← HF.out]
              have h3 : m * c ≤ k * c := Nat.mul_le_mul_right c (by omega)
              show (if k * c ≤ left then _ else _) = none
              by_cases e2 : k * c ≤ left
              · rw [if_pos e2, show left - k * c = 0 by omega, srch_zero]
              · rw [if_neg e2]
          have HEND := Lib.hid hend
          have HEMC := Lib.hid emc
          clear hend emc
          go_wp2_with fail
          go_end0
          exact ⟨by rw [HEND.out]; rfl, HGR.out, HRW.out⟩

end Go.Proofs.YtfipbnognjepkaaDoor
