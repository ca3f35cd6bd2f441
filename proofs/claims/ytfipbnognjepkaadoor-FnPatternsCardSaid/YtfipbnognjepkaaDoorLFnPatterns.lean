/- For every list of bytes: the first place of a pattern has values that make the factor there, a word has a pattern just if there is such a place, what fits a pattern has it, words have the pattern AA just if they are not square free, as the law asks. Condition: the tables of the library that its code names hold what the program's text lays. -/
import Derived.Test.YtfipbnognjepkaaDoorW15
import Derived.Test.YtfipbnognjepkaaDoorW16
import Derived.Test.YtfipbnognjepkaaDoorPlcF
import Derived.Test.YtfipbnognjepkaaDoorPatH
import Derived.Test.YtfipbnognjepkaaDoorRows
import Derived.WalkKit
import Derived.ProofKit
import Derived.OpenShut
import Derived.ShutString
import Derived.ChangeOld
import Derived.Below
import Derived.LaidMore
import Derived.Lay
import Derived.SevenTiedAt
import Derived.Test.YtfipbnognjepkaaDoorCards
import Derived.Test.YtfipbnognjepkaaDoorTie
import Derived.Stop.Joined
import Derived.Deep.Cut
import Derived.Deep.CutRange
namespace Go.Proofs.YtfipbnognjepkaaDoor.fnPatterns
open Go.ChangeShapes Go.WideShapes Go.ChangeAt Go.RowKit
open Go.ChangeMaps (open_string shut_string)
set_option linter.unusedVariables false

theorem OwnS.keptSet {w : World} {B G : Nat} {v : Value} {L : List ByteArray} (h : OwnS w B v L) (hG : v.ownBlock ≠ some G) (j : Nat) (u : Value) : OwnS (w.setCell ⟨G, j, none⟩ u) B v L := by
  refine World.ownsRow.kept h (grown_set (grown_refl w (some G)) j u) ?_
  cases hv : v.ownBlock with
  | none => exact .inl rfl
  | some k => exact .inr (by rw [← hv]; exact hG)
theorem wf_nearP {k : Int} (h0 : -4611686018427387904 ≤ k) (h1 : k ≤ 1099511627776) : (Lit.int .i64 k).wf = true := by
  simp [Lit.wf, IntKind.min, IntKind.max, IntKind.signed, IntKind.bits]
  omega
theorem bt_cat_eq {a b c : List UInt8} : (bt c = bt a ++ bt b) = (c = a ++ b) := by
  apply propext
  rw [show bt a ++ bt b = bt (a ++ b) from bl_inj (by rw [bl_append]; rfl)]
  exact ⟨fun h => by have := congrArg bl h; exact this, fun h => by rw [h]⟩
theorem gH (x p : ByteArray) : (hasR x p).2 ≠ 0 ∨ ((hasR x p).2 = 0 ∧ (hasR x p).1 = ((placeR x p).2.2 == 0)) := by
  by_cases h : IsW x ∧ IsP p
  · right
    rw [hasR_ok h]
    refine ⟨rfl, ?_⟩
    show hasB (bl x) (bl p) = _
    unfold hasB
    cases hp : pff (bl x) (bl p) with
    | none => rw [placeR_none h hp]; rfl
    | some iW => obtain ⟨i, W⟩ := iW; rw [placeR_some h hp]; rfl
  · rw [hasR_bad h]; exact .inl (by decide)
theorem gF (u q : ByteArray) : ((fitsR u q).2 ≠ 0 ∨ (fitsR u q).1 = false) ∨ ((fitsR u q).2 = 0 ∧ (fitsR u q).1 = true ∧ hasR u q = (true, 0)) := by
  by_cases h : IsW u ∧ IsP q
  · rw [fitsR_ok h, hasR_ok h]
    cases hf : fitsB (bl u) (bl q) with
    | false => exact .inl (.inr rfl)
    | true =>
      refine .inr ⟨rfl, rfl, ?_⟩
      have h1 := (fitsB_iff h.2.list).1 hf
      have h2 : hasB (bl u) (bl q) = true := (hasB_iff h.2.list (bl_ne h.2.1)).2 ⟨0, (bl u).length, by omega, by rw [List.drop_zero, List.take_length]; exact h1⟩
      rw [h2]
  · rw [fitsR_bad h]; exact .inl (.inl (by decide))
theorem gS (x : ByteArray) (h : (hasR x ⟨#[65, 65]⟩).2 = 0) : isfR x = (!(hasR x ⟨#[65, 65]⟩).1, 0) := by
  by_cases hg : IsW x ∧ IsP ⟨#[65, 65]⟩
  · rw [hasR_ok hg, isfR_ok hg.1]
    have e : bl (⟨#[65, 65]⟩ : ByteArray) = [65, 65] := rfl
    rw [e]
    have h2 := has_AA (bl x)
    by_cases h3 : (fs (bl x)).2 = 0
    · have h4 : hasB (bl x) [65, 65] = false := by rw [Bool.eq_false_iff]; intro q; exact (h2.1 q) h3
      rw [h4, decide_eq_true h3]; rfl
    · rw [h2.2 h3, decide_eq_false h3]; rfl
  · rw [hasR_bad hg] at h; exact absurd h (by decide)
theorem ownS_valueP {w : World} {B : Nat} {v : Value} {L : List ByteArray} (h : OwnS w B v L) : ∃ a c, v = .slice a L.length c := by
  rcases own_forms h with ⟨rfl, h0, _⟩ | ⟨g, cap, hv, _⟩
  · exact ⟨none, 0, by rw [h0]⟩
  · exact ⟨_, cap, hv⟩
theorem subV_take_le (W : Nat → List UInt8) (P : List UInt8) (i : Nat) : (subV W (P.take i)).length ≤ (subV W P).length := by
  have e : subV W P = subV W (P.take i) ++ subV W (P.drop i) := by
    unfold subV
    rw [← List.flatMap_append, List.take_append_drop]
  rw [e, List.length_append]
  omega
theorem bt_cat (a b : List UInt8) : bt a ++ bt b = bt (a ++ b) := bl_inj (by rw [bl_append]; rfl)
theorem fact_place {x p : ByteArray} {i : Nat} {W : Nat → List UInt8} (hx : IsW x) (hp : IsP p) (h : pff (bl x) (bl p) = some (i, W)) : factR x (i : Int) (((subV W (bl p)).length : Nat) : Int) = (bt (subV W (bl p)), 0) := by
  obtain ⟨h1, h2⟩ := pff_sub hp.list h
  rw [bl_len] at h1
  unfold factR
  rw [if_neg (not_not_intro hx), if_neg (by omega)]
  congr 1
  refine bl_inj ?_
  rw [bl_extract]
  show ((bl x).drop (i : Int).toNat).take _ = subV W (bl p)
  rw [show (i : Int).toNat = i by omega, show (((subV W (bl p)).length : Nat) : Int).toNat = (subV W (bl p)).length by omega, show i + (subV W (bl p)).length - i = (subV W (bl p)).length by omega]
  exact h2
abbrev Tb (W : World) (B G : Nat) (P : List UInt8) (j : Nat) : Prop := TbF W B G 3 3 (fun k => .int .i64 (tblA P j k))
theorem tb_new (W : World) (P : List UInt8) : Tb (W.alloc (.cells #[.int .i64 (-1), .int .i64 (-1), .int .i64 (-1)] 3)) W.heap.size W.heap.size P 0 := by
  have h := World.ownsRow_lit (base := W.heap.size) (e := 3) (size := 1) W #[.int .i64 (-1), .int .i64 (-1), .int .i64 (-1)] 3 (Nat.le_refl _) (by decide) rfl
  have e : tbF 3 (fun k => .int .i64 (tblA P 0 k)) = [.int .i64 (-1), .int .i64 (-1), .int .i64 (-1)] := by
    unfold tbF tblA
    simp [List.range_succ]
  unfold Tb TbF
  rw [e]
  exact h

set_option maxRecDepth 100000 in
set_option maxHeartbeats 8000000 in
theorem walk (a0 : Option Addr) (len0 cap0 : Nat) (z0 : List Int) (w : World) (w0 : IsRow .u8 w a0 len0 cap0 z0) :
    Calls Tryd.prog 5 #[.slice a0 len0 cap0] w fun e w' => e = .returned (.bool true) ∧ Below w.heap.size w w' := by
  have h0 := Lib.hid w0
  clear w0
  by_cases hbig : 4096 < len0
  · clear h0
    have C0 := Lib.hid (big_yes a0 len0 cap0 w hbig)
    go_enter Tryd.func5, Tryd.ntmps5
    go_wp2_with fail
    refine C0.out.mono ?_
    rintro e x0 ⟨rfl, b⟩
    go_wp2_with fail
    go_ret
    exact ⟨rfl, b⟩
  have C0 := Lib.hid (big_no a0 len0 cap0 w (by omega))
  have hl : len0 ≤ 1048576 := by omega
  have D1 := Lib.hid (fun w' (b : Below w.heap.size w w') => DrawFirstPlace_any a0 len0 cap0 z0 w' (h0.out.below b) hl)
  have D2 := Lib.hid (fun w' (b : Below w.heap.size w w') => DrawFitsPattern_any a0 len0 cap0 z0 w' (h0.out.below b) hl)
  clear h0
  go_enter Tryd.func5, Tryd.ntmps5
  have B := Below.refl w.heap.size w
  go_wp2_with fail
  refine C0.out.mono ?_
  rintro e x0 ⟨rfl, b⟩
  have B := B.then b
  clear b C0
  go_wp2_with fail
  refine (D1.out _ B).mono ?_
  rintro e x1 ⟨x, p, rfl, hx, hp, b⟩
  have B := B.then b
  have hw1 := B.size
  clear b D1
  have sx : x.size ≤ maxLen := by unfold maxLen; omega
  have sp : p.size ≤ maxLen := by unfold maxLen; omega
  have ci := fun w => impl_FirstPlace x p w sx sp
  have cs := fun w => spec_FirstPlace x p w sx sp
  have hci := fun w => impl_HasPattern x p w sx sp
  have hcs := fun w => spec_HasPattern x p w sx sp
  have gp := placeR_cases x p
  have gh := gH x p
  have gs : (hasR x p).2 = 0 → p = ⟨#[65, 65]⟩ → isfR x = (!(hasR x p).1, 0) := fun h e => by subst e; exact gS x h
  have CQ := Lib.hid (fun w => impl_IsSquareFree x w sx)
  have CFA := Lib.hid (fun i n w (wi : (Lit.int .i64 i).wf = true) (wn : (Lit.int .i64 n).wf = true) => impl_FactorAt x i n w sx wi wn)
  unfold RetP at ci cs
  have hL3 := placeR_len x p
  have gp2 : ((placeR x p).2.2 ≠ 0 ∧ (placeR x p).2.1 = []) ∨ ((placeR x p).2.2 = 0 ∧ IsW x ∧ IsP p ∧ ∃ (i : Nat) (W : Nat → List UInt8), (placeR x p).1 = (i : Int) ∧ (placeR x p).2.1 = valsB (vsOf (bl p)) W ∧ pff (bl x) (bl p) = some (i, W)) := by
    rcases gp with h | ⟨h1, h2, i, W, h3, h4⟩
    · exact .inl h
    · refine .inr ⟨by rw [h3], h1, h2, i, W, by rw [h3], by rw [h3], h4⟩
  clear gp
  generalize (placeR x p).2.1 = L at ci cs hL3 gp2
  generalize (placeR x p).1 = n0 at ci cs gp2
  generalize (placeR x p).2.2 = c1 at ci cs gp2 gh
  generalize (hasR x p).1 = hb at hci hcs gh gs
  generalize (hasR x p).2 = c2 at hci hcs gh gs
  have CI := Lib.hid ci
  have CS := Lib.hid cs
  have HCI := Lib.hid hci
  have HCS := Lib.hid hcs
  have GP := Lib.hid gp2
  have GH := Lib.hid gh
  have GS := Lib.hid gs
  clear ci cs hci hcs gp2 gh gs
  go_wp2_with fail
  refine (CI.out _).mono ?_
  rintro e x2 ⟨v1, rfl, o1, b⟩
  have B := B.then b
  clear b
  go_wp2_with fail
  refine (CS.out _).mono ?_
  rintro e x3 ⟨v0, rfl, o0, b⟩
  have B := B.then b
  have o1 := o1.below b
  clear b CI CS
  obtain ⟨va, vc, rfl⟩ := ownS_valueP o1
  obtain ⟨va0, vc0, rfl⟩ := ownS_valueP o0
  generalize hB1 : x1.heap.size = B1 at o1
  have hB1le : w.heap.size ≤ B1 := by rw [← hB1]; exact hw1
  go_wp2_with fail
  refine (words9_yes _ _ _ _ L _ o1 o0).mono ?_
  rintro e x4 ⟨rfl, b⟩
  have B := B.then b
  have o1 := o1.below b
  clear b o0
  go_wp2_with fail
  refine (HCI.out _).mono ?_
  rintro e x5 ⟨rfl, b⟩
  have B := B.then b
  have o1 := o1.below b
  clear b
  go_wp2_with fail
  refine (HCS.out _).mono ?_
  rintro e x6 ⟨rfl, b⟩
  have B := B.then b
  have o1 := o1.below b
  clear b HCI HCS
  go_wp2_with fail
  refine (D2.out _ B).mono ?_
  rintro e x7 ⟨u, q, rfl, hu, hq, b⟩
  have B := B.then b
  have o1 := o1.below b
  clear b D2
  have su : u.size ≤ maxLen := by unfold maxLen; omega
  have sq : q.size ≤ maxLen := by unfold maxLen; omega
  have ci := fun w => impl_FitsPattern u q w su sq
  have cs := fun w => spec_FitsPattern u q w su sq
  have gf := gF u q
  have HU := Lib.hid (fun (h : hasR u q = (true, 0)) w => by have r := impl_HasPattern u q w su sq; rw [h] at r; exact r)
  generalize (fitsR u q).1 = fb at ci cs gf
  generalize (fitsR u q).2 = c3 at ci cs gf
  have CI := Lib.hid ci
  have CS := Lib.hid cs
  have GF := Lib.hid gf
  clear ci cs gf
  go_wp2_with fail
  refine (CI.out _).mono ?_
  rintro e x8 ⟨rfl, b⟩
  have B := B.then b
  have o1 := o1.below b
  clear b
  go_wp2_with fail
  refine (CS.out _).mono ?_
  rintro e x9 ⟨rfl, b⟩
  have B := B.then b
  have o1 := o1.below b
  clear b CI CS
  go_upto_region 17 with fail
  go_cut [117] from 113 to 117 (fun s117 wc => s117 = .bool (c3 == 0 && fb) ∧ OwnS wc B1 (.slice va L.length vc) L ∧ Below w.heap.size w wc)
  case first =>
    clear GF
    by_cases hc : c3 = 0
    · subst hc
      cases fb with
      | true =>
        go_wp2_with fail
        go_meet
        case rel => exact ⟨rfl, o1, B⟩
      | false =>
        go_wp2_with fail
        go_meet
        case rel => exact ⟨rfl, o1, B⟩
    · have hcf : (c3 == 0) = false := beq_eq_false_iff_ne.2 hc
      go_wp2_with fail
      go_meet
      case rel => exact ⟨by rw [hcf]; rfl, o1, B⟩
  case rest => as_aux_lemma =>
    obtain ⟨rfl, o1, B⟩ := hcut
    have gt : (c3 == 0 && fb) = false ∨ ((c3 == 0 && fb) = true ∧ hasR u q = (true, 0)) := by
      rcases GF.out with h | ⟨h, h1, h2⟩
      · left
        rcases h with h | h
        · rw [beq_eq_false_iff_ne.2 h]; rfl
        · rw [h, Bool.and_false]
      · right
        rw [h, h1]
        exact ⟨rfl, h2⟩
    generalize (c3 == 0 && fb) = tb at gt ⊢
    have GT := Lib.hid gt
    clear gt GF
    go_upto_if 117 with fail
    go_cut [21, 22] from 118 to 129 (fun s21 s22 wc => OwnS wc B1 (.slice va L.length vc) L ∧ Below w.heap.size w wc)
    case first =>
      rcases GT.out with h | ⟨h, h2⟩
      · subst h
        clear GT
        go_wp2_with fail
        go_meet
        case rel => exact ⟨o1, B⟩
      · subst h
        have CH := Lib.hid (HU.out h2)
        clear GT HU h2
        go_wp2_with fail
        refine (CH.out _).mono ?_
        rintro e y1 ⟨rfl, b⟩
        have B := B.then b
        have o1 := o1.below b
        clear b
        go_wp2_with fail
        go_meet
        case rel => exact ⟨o1, B⟩
    case rest => as_aux_lemma =>
      obtain ⟨o1, B⟩ := hcut
      clear GT HU
      go_upto_if 131 with fail
      go_cut [23, 24] from 132 to 149 (fun s23 s24 wc => OwnS wc B1 (.slice va L.length vc) L ∧ Below w.heap.size w wc)
      case first =>
        rcases GH.out with h | ⟨h, h1⟩
        · have hcf : (c2 == 0) = false := beq_eq_false_iff_ne.2 h
          clear GH GS
          go_wp2_with fail
          go_meet
          case rel => exact ⟨o1, B⟩
        · subst h
          have gs2 := GS.out rfl
          clear GH GS
          by_cases hc0 : c1 = 0
          · have hbt : hb = true := by rw [h1, hc0]; rfl
            subst hbt hc0
            clear h1
            by_cases hpa : p = ⟨#[65, 65]⟩
            · have hq2 := gs2 hpa
              subst hpa
              have cq := CQ.out
              rw [hq2] at cq
              have CQ2 := Lib.hid cq
              clear cq hq2 gs2 GP
              go_wp2_with fail
              refine (CQ2.out _).mono ?_
              rintro e y1 ⟨rfl, b⟩
              have B := B.then b
              have o1 := o1.below b
              clear b
              go_wp2_with fail
              go_meet
              case rel => exact ⟨o1, B⟩
            · have hpn : (p.toList == (⟨#[65, 65]⟩ : ByteArray).toList) = false := by
                rw [beq_eq_false_iff_ne]
                intro e
                exact hpa (bl_inj (by rw [ByteArray.toList_eq, ByteArray.toList_eq] at e; exact e))
              have hpn3 : ¬ p.toList = [65, 65] := fun e => hpa (bl_inj (by rw [ByteArray.toList_eq] at e; exact e))
              have hpn2 : (p.toList == [65, 65]) = false := beq_eq_false_iff_ne.2 hpn3
              clear gs2 GP
              go_wp2_with fail
              go_meet
              case rel => exact ⟨o1, B⟩
          · have hcf : (c1 == 0) = false := beq_eq_false_iff_ne.2 hc0
            have hbt : hb = false := by rw [h1, hcf]
            subst hbt
            clear h1
            by_cases hpa : p = ⟨#[65, 65]⟩
            · have hq2 := gs2 hpa
              subst hpa
              have cq := CQ.out
              rw [hq2] at cq
              have CQ2 := Lib.hid cq
              clear cq hq2 gs2 GP
              go_wp2_with fail
              refine (CQ2.out _).mono ?_
              rintro e y1 ⟨rfl, b⟩
              have B := B.then b
              have o1 := o1.below b
              clear b
              go_wp2_with fail
              go_meet
              case rel => exact ⟨o1, B⟩
            · have hpn : (p.toList == (⟨#[65, 65]⟩ : ByteArray).toList) = false := by
                rw [beq_eq_false_iff_ne]
                intro e
                exact hpa (bl_inj (by rw [ByteArray.toList_eq, ByteArray.toList_eq] at e; exact e))
              have hpn3 : ¬ p.toList = [65, 65] := fun e => hpa (bl_inj (by rw [ByteArray.toList_eq] at e; exact e))
              have hpn2 : (p.toList == [65, 65]) = false := beq_eq_false_iff_ne.2 hpn3
              clear gs2 GP
              go_wp2_with fail
              go_meet
              case rel => exact ⟨o1, B⟩
      case rest => as_aux_lemma =>
        obtain ⟨o1, B⟩ := hcut
        clear GH GS CQ
        rcases GP.out with ⟨h, h1⟩ | ⟨h, hX, hP, i, W, h1, h2, hpf⟩
        · subst h1
          have hcf : (c1 == 0) = false := beq_eq_false_iff_ne.2 h
          clear GP
          go_wp2_with fail
          go_ret
          exact ⟨by first | rfl | simp, B⟩
        · subst h h1 h2
          clear GP
          have hP8 := hP.2.1
          have hX60 := hX.size
          have hPl := hP.list
          have hpl : (bl p).length = p.size := bl_len p
          have hxl : (bl x).length = x.size := bl_len x
          obtain ⟨hs1, hs2⟩ := pff_sub hPl hpf
          have hvn : 0 < (valsB (vsOf (bl p)) W).length := by unfold valsB; rw [List.length_map]; exact vsOf_posP hPl (bl_ne hP.1)
          have hcnt := cN_all (bl p)
          have hvl : (valsB (vsOf (bl p)) W).length = cN (bl p) 3 := by unfold valsB; rw [List.length_map, hcnt]
          have HFP := Lib.hid (fact_place hX hP hpf)
          have HPL := Lib.hid hPl
          have HVL := Lib.hid hvl
          have HVT := Lib.hid (fun k (hk : k < 3) (h : 0 < cntV (bl p) k) => cN_at_val (W := W) hk h)
          have HSL := Lib.hid (fun j => subV_take_le W (bl p) j)
          have HTN := Lib.hid (fun V => tb_new V (bl p))
          clear hs2 hPl hvl hcnt hpf hX hP
          go_wp2_with fail
          obtain ⟨WT, hWT⟩ : ∃ WT, WT = wc.alloc (.cells #[.int .i64 (-1), .int .i64 (-1), .int .i64 (-1)] 3) := ⟨_, rfl⟩
          try rw [← hWT]
          have t0 : Tb WT wc.heap.size wc.heap.size (bl p) 0 := by rw [hWT]; exact HTN.out wc
          have bT : Below wc.heap.size wc WT := by rw [hWT]; exact Below.new _ _
          have BT := B.then bT
          have oT := o1.below bT
          have hgw : w.heap.size ≤ wc.heap.size := B.size
          have hne : (Value.slice va (valsB (vsOf (bl p)) W).length vc).ownBlock ≠ some wc.heap.size := fun e => by have := (OwnS.lt o1 _ e).2; omega
          generalize wc.heap.size = G at t0 hgw hne ⊢
          clear hWT HTN bT B o1
          go_loopw [27, 28] (fun s27 s28 wr => ∃ j : Nat, j ≤ 3 ∧ s27 = .int .i64 ((cN (bl p) j : Nat) : Int) ∧ s28 = .int .u8 ((j : Int) + 65) ∧ Tb wr G G (bl p) j ∧ OwnS wr B1 (.slice va (valsB (vsOf (bl p)) W).length vc) (valsB (vsOf (bl p)) W) ∧ Below w.heap.size w wr) (fun _ s28 _ => 68 - (intOf s28).toNat)
          case atStart => exact ⟨0, Nat.zero_le _, rfl, rfl, t0, oT, BT⟩
          case round =>
            clear t0 oT BT
            obtain ⟨j, hj, rfl, rfl, hT, hO, hB⟩ := hrel
            have hcj := cN_le (bl p) j
            by_cases hj3 : j < 3
            · have hle : (j : Int) + 65 ≤ 67 := by omega
              obtain ⟨C, hC⟩ : ∃ C, cN (bl p) j = C := ⟨_, rfl⟩
              rw [hC] at hcj ⊢
              have HC := Lib.hid hC
              clear hC
              go_wp2_with fail
              go_loopw [27, 29] (fun s27 s29 wq => ∃ k : Nat, k ≤ p.size ∧ s29 = .int .i64 (k : Int) ∧ ((Hid (cntV ((bl p).take k) j = 0) ∧ s27 = .int .i64 (C : Int) ∧ Tb wq G G (bl p) j) ∨ (0 < cntV (bl p) j ∧ s27 = .int .i64 ((C : Int) + 1) ∧ Tb wq G G (bl p) (j + 1))) ∧ OwnS wq B1 (.slice va (valsB (vsOf (bl p)) W).length vc) (valsB (vsOf (bl p)) W) ∧ Below w.heap.size w wq) (fun _ s29 _ => p.size - (intOf s29).toNat)
              case atStart => exact ⟨0, Nat.zero_le _, rfl, .inl ⟨Lib.hid (by simp [cntV]), rfl, hT⟩, hO, hB⟩
              case round =>
                clear hT hO hB
                obtain ⟨k, hk, rfl, hcase, hO, hB⟩ := hrel
                rcases hcase with ⟨HZ, rfl, hT⟩ | ⟨hpos, rfl, hT⟩
                · have hat : wr.cell? ⟨G, j, none⟩ = some (.int .i64 (-1)) := by rw [hT.at hj3, tblA_here]
                  have hfz : wr.frozen? ⟨G, j, none⟩ = false := hT.frozenAt j
                  by_cases hlt : k < p.size
                  · have hlt2 : (k : Int) < (p.size : Int) := by omega
                    have hlb : k < (bl p).length := by omega
                    obtain ⟨hc1, hc2⟩ := HPL.out _ (List.getElem_mem hlb)
                    have htk := cntV_takeP (bl p) j k hlb
                    obtain ⟨m, hm⟩ : ∃ m, vn ((bl p)[k]'hlb) = m := ⟨_, rfl⟩
                    have hck : (((bl p)[k]'hlb).toNat : Int) = (m : Int) + 65 := by rw [← hm]; unfold vn; omega
                    have hm3 : m < 3 := by rw [← hm]; unfold vn; omega
                    have hidx : ∀ V, (Instr.index 9 (.string p) (.int .i64 (k : Int))).run Tryd.prog V = .ok (.int .u8 ((m : Int) + 65)) V := fun V => by
                      rw [run_index_string (h := Tryd.underlying9), dif_pos ⟨by omega, by omega⟩, ← hck]; rfl
                    by_cases hmj : m = j
                    · subst hmj
                      have hpos : 0 < cntV (bl p) m := cntV_pos.2 ⟨_, List.getElem_mem hlb, hm⟩
                      have hst := hT.set m (.int .i64 (C : Int))
                      have hT2 : Tb (wr.setCell ⟨G, m, none⟩ (.int .i64 (C : Int))) G G (bl p) (m + 1) := hst.congr (fun q hq => by
                        rw [tblA_new hpos q, HC.out]
                        by_cases e : q = m
                        · rw [if_pos e, if_pos e]
                        · rw [if_neg e, if_neg e])
                      have HT2 := Lib.hid hT2
                      have HO2 := Lib.hid (OwnS.keptSet hO hne m (.int .i64 (C : Int)) : OwnS (wr.setCell ⟨G, m, none⟩ (.int .i64 (C : Int))) B1 _ _)
                      have HB2 := Lib.hid (hB.setCell (p := ⟨G, m, none⟩) hgw (.int .i64 (C : Int)))
                      clear hst hT2 hT hO hB htk hm hck hc1 hc2
                      go_wp2_with fail
                      go_roundw
                      case rel => exact ⟨k + 1, by omega, by go_num, .inr ⟨hpos, rfl, HT2.out⟩, HO2.out, HB2.out⟩
                      case measure => simp [intOf]; omega
                    · have hb : (((m : Int) + 65) == ((j : Int) + 65)) = false := beq_eq_false_iff_ne.2 (by omega)
                      have hz2 : cntV ((bl p).take (k + 1)) j = 0 := by rw [htk, HZ.out, hm, if_neg hmj]
                      have HZ2 := Lib.hid hz2
                      have HT2 := Lib.hid hT
                      clear htk hm hck hc1 hc2 hz2 hT
                      go_wp2_with fail
                      go_roundw
                      case rel => exact ⟨k + 1, by omega, by go_num, .inl ⟨HZ2, rfl, HT2.out⟩, hO, hB⟩
                      case measure => simp [intOf]; omega
                  · have hlt2 : ¬ (k : Int) < (p.size : Int) := by omega
                    have hz := HZ.out
                    rw [List.take_of_length_le (by omega)] at hz
                    have hT2 : Tb wr G G (bl p) (j + 1) := hT.congr (fun q hq => by rw [tblA_old hz q])
                    have hcn2 : cN (bl p) (j + 1) = C := by rw [cN_old hz, HC.out]
                    have HT2 := Lib.hid hT2
                    have HCN := Lib.hid hcn2
                    clear hz hT2 hT hcn2
                    go_wp2_with fail
                    go_roundw
                    case rel => exact ⟨j + 1, by omega, by rw [HCN.out], by go_num, HT2.out, hO, hB⟩
                    case measure => simp [intOf]; omega
                · have hat : wr.cell? ⟨G, j, none⟩ = some (.int .i64 (C : Int)) := by rw [hT.at hj3, tblA_hit hpos, HC.out]
                  have hcn2 : cN (bl p) (j + 1) = C + 1 := by rw [cN_new hpos, HC.out]
                  have HT2 := Lib.hid hT
                  have HCN := Lib.hid hcn2
                  have hneg : ¬ (C : Int) < 0 := by omega
                  clear hT hcn2
                  by_cases hlt : k < p.size
                  · have hlt2 : (k : Int) < (p.size : Int) := by omega
                    go_wp2_with fail
                    go_roundw
                    case rel => exact ⟨j + 1, by omega, by rw [HCN.out]; go_num, by go_num, HT2.out, hO, hB⟩
                    case measure => simp [intOf]; omega
                  · have hlt2 : ¬ (k : Int) < (p.size : Int) := by omega
                    go_wp2_with fail
                    go_roundw
                    case rel => exact ⟨j + 1, by omega, by rw [HCN.out]; go_num, by go_num, HT2.out, hO, hB⟩
                    case measure => simp [intOf]; omega
            · obtain rfl : j = 3 := by omega
              have hle : ¬ ((3 : Nat) : Int) + 65 ≤ 67 := by omega
              obtain ⟨g, cp, hvv, hgB, hgl, hcp, hvm, hvc, _⟩ := hO.row hvn
              injection hvv with hva _ hvcp
              subst hva hvcp
              rw [HVL.out] at hcp ⊢
              have HVC := Lib.hid hvc
              have HTT := Lib.hid hT
              have hg3 : cN (bl p) 3 ≤ 3 := hcj
              clear hvc hT hvm hO
              obtain ⟨N, hN⟩ : ∃ N, cN (bl p) 3 = N := ⟨_, rfl⟩
              rw [hN] at hcp hg3 ⊢
              have HN := Lib.hid hN
              clear hN hcj
              go_wp2_with fail
              go_loopw [25, 30] (fun s25 s30 wq => ∃ k : Nat, k ≤ p.size ∧ s30 = .int .i64 (k : Int) ∧ s25 = .string (bt (subV W ((bl p).take k))) ∧ wq = wr) (fun _ s30 _ => p.size - (intOf s30).toNat)
              case atStart => exact ⟨0, Nat.zero_le _, rfl, by simp [subV]; rfl, rfl⟩
              case round =>
                obtain ⟨k, hk, rfl, rfl, rfl⟩ := hrel
                by_cases hlt : k < p.size
                · have hlt2 : (k : Int) < (p.size : Int) := by omega
                  have hlb : k < (bl p).length := by omega
                  obtain ⟨hc1, hc2⟩ := HPL.out _ (List.getElem_mem hlb)
                  have htk := subV_take W (bl p) k hlb
                  obtain ⟨m, hm⟩ : ∃ m, vn ((bl p)[k]'hlb) = m := ⟨_, rfl⟩
                  have hck : (((bl p)[k]'hlb).toNat : Int) = (m : Int) + 65 := by rw [← hm]; unfold vn; omega
                  have hm3 : m < 3 := by rw [← hm]; unfold vn; omega
                  have hpos : 0 < cntV (bl p) m := cntV_pos.2 ⟨_, List.getElem_mem hlb, hm⟩
                  have hidx : ∀ V, (Instr.index 9 (.string p) (.int .i64 (k : Int))).run Tryd.prog V = .ok (.int .u8 ((m : Int) + 65)) V := fun V => by
                    rw [run_index_string (h := Tryd.underlying9), dif_pos ⟨by omega, by omega⟩, ← hck]; rfl
                  have hat : wr.cell? ⟨G, m, none⟩ = some (.int .i64 ((cN (bl p) m : Nat) : Int)) := by rw [HTT.out.at hm3, tblA_all hm3 hpos]
                  obtain ⟨hq1, hq2⟩ := HVT.out m hm3 hpos
                  have hq1' : cN (bl p) m < (valsB (vsOf (bl p)) W).length := hq1
                  have hcv := HVC.out (cN (bl p) m) hq1'
                  have hq3 : (valsB (vsOf (bl p)) W)[cN (bl p) m]'hq1' = bt (W m) := hq2
                  rw [hq3] at hcv
                  rw [HVL.out, HN.out] at hq1'
                  rw [hm, ← bt_cat_eq] at htk
                  have hsz1 := HSL.out (k + 1)
                  have hsz0 := HSL.out k
                  have hbs1 : (bt (subV W ((bl p).take k))).size = (subV W ((bl p).take k)).length := bt_size _
                  have hbs2 : (bt (W m)).size = (W m).length := bt_size _
                  have hwl : (W m).length ≤ 60 := by
                    have h1 := congrArg List.length (subV_take W (bl p) k hlb)
                    rw [List.length_append, hm] at h1
                    omega
                  generalize cN (bl p) m = cc at *
                  generalize hta : bt (subV W ((bl p).take k)) = ta at *
                  generalize htb : bt (W m) = tb2 at *
                  have hsum : ∀ V, (Op.stringOp .add ta tb2).run Tryd.prog V = .ok (.string (ta ++ tb2)) V := fun V => run_string_add_sum V ta tb2 (by omega)
                  have HTK := Lib.hid htk
                  have hccp : cc < vc := by omega
                  clear htk hm hck hc1 hc2 hta htb hq2 hq3 hq1 hsz1 hsz0 hwl
                  go_wp2_with fail
                  go_roundw
                  case rel => exact ⟨k + 1, by omega, by go_num, by rw [HTK.out], by first | rfl | trivial⟩
                  case measure => simp [intOf]; omega
                · have hlt2 : ¬ (k : Int) < (p.size : Int) := by omega
                  have htk : (bl p).take k = bl p := List.take_of_length_le (by omega)
                  rw [htk]
                  have hbs : (bt (subV W (bl p))).size = (subV W (bl p)).length := bt_size _
                  have hfa := fun V => CFA.out (i : Int) (((subV W (bl p)).length : Nat) : Int) V (wf_nearP (by omega) (by omega)) (wf_nearP (by omega) (by omega))
                  rw [HFP.out] at hfa
                  have CA := Lib.hid hfa
                  clear hfa htk
                  generalize bt (subV W (bl p)) = fz at *
                  generalize (subV W (bl p)).length = n at *
                  go_wp2_with fail
                  refine (CA.out _).mono ?_
                  rintro e y1 ⟨rfl, b⟩
                  have B := hB.then b
                  go_wp2_with fail
                  go_ret
                  exact ⟨by first | rfl | simp, B⟩

theorem own : ownKnob Tryd.prog.godebug = none := by kernel_rfl
theorem laidOut : laidOutB Tryd.prog = true := by kernel_rfl

set_option maxRecDepth 100000 in
theorem lifted (os : Os) (started : os.Started) (H : Type) (enc : TypeId × Value → H) :
    ReturnsInHanded {} Tryd.checked os 5 .any (fun w args => (Rows.fnPatternsSpec.pre enc Tryd.prog Tryd.f5 Rows.fnPatternsRow.domain false w args ∧ laidMetH Tryd.prog Rows.fnPatternsRow.laid w) ∧ sizedMet enc Tryd.prog Tryd.f5 (OpenSpec.ofChange Rows.fnPatternsSpec) false w args)
      (Rows.fnPatternsSpec.post enc Tryd.prog Tryd.f5 false true false false) := by
  refine returnsInHanded_of_change_and (C := Tryd.checked) (X := fun w _ => laidMetH Tryd.prog Rows.fnPatternsRow.laid w) (fun _ _ _ hh h => h.of_heap hh) own started (by kernel_rfl) Tryd.func5
    (ChangeSpec.witness_shaped (enc := enc) (C := Tryd.checked) (os := os) (X := fun w _ => laidMetH Tryd.prog Rows.fnPatternsRow.laid w) false (World.laidAll Tryd.prog os Rows.fnPatternsRow.laid) #[.slice none 0 0] 8 (World.laidAll_os _ _ _)
      (World.shaped_of_ZipB (by kernel_rfl) (by kernel_rfl)) (by kernel_rfl) (by kernel_rfl) (by kernel_rfl)
      (by rw [MakeChecks.laidMetH_plain _ _ _ (by kernel_rfl)]; exact laidMet_laidAll _ (by kernel_rfl) (by kernel_rfl))) ?_
  intro W base args ds gs before hval0 hW hcnd _ hL _
  have hval : ∀ (j : Nat) t v, Tryd.f5.params[j]? = some t → args[j]? = some v → Value.okWide Tryd.prog W .any base t v := hval0
  have hW' := hW
  obtain ⟨p, q, hA0, hV, rfl, hfz, hnd⟩ := hW
  have hA : DataW.TrodAll enc Tryd.prog W 0 (fun _ => true) true Tryd.f5.params.toList args.toList ds p := hA0
  rw [Tryd.params5] at hA hval
  obtain ⟨v0, vs0, d0, ds0, p0, q0, hargs, rfl, rfl, h0, r0⟩ := trodAll_cons hA
  obtain ⟨rfl, rfl, rfl⟩ := trodAll_nil r0
  obtain rfl : args = #[v0] := by cases args; simp_all
  obtain ⟨rfl, rfl⟩ := trodVars_none hV
  obtain ⟨a0, len0, cap0, rfl⟩ := okWide_slice Tryd.underlying40 (hval 0 40 v0 rfl rfl)
  have k0 := h0
  have lt0 : ∀ x ∈ p0, x.block < W.heap.size := by obtain ⟨m, hm⟩ := k0; exact DataW.trod_lt m _ _ _ hm
  obtain ⟨z0, w0⟩ : ∃ zs, IsRow .u8 W a0 len0 cap0 zs := by
    obtain ⟨fuel, hf⟩ := h0
    rcases open_ints Tryd.underlying40 Tryd.underlying5 (by kernel_rfl) hf with ⟨hcs, _⟩ | ⟨x, l, c, zs, hcs, _, hl, hm, hz, _, hcell, hwz⟩
    · simp [Value.cells] at hcs
      obtain ⟨rfl, rfl, rfl⟩ := hcs
      exact ⟨[], .inl ⟨rfl, rfl, rfl, rfl⟩⟩
    · simp [Value.cells] at hcs
      obtain ⟨rfl, rfl, rfl⟩ := hcs
      exact ⟨zs, .inr ⟨_, rfl, hl, hm, by simpa using hz, hcell, hwz⟩⟩
  clear hA0 hval0
  refine (walk a0 len0 cap0 z0 W w0).mono fun e W' ⟨he, bel⟩ => ?_
  subst he
  exact ⟨_, rfl, _, _, _, [], _, [], hW', trodAll_mk1 (shut_bool Tryd.underlying4 _), (trodAll_cons_mk (Below.trod laidOut (by kernel_rfl) (of_decide_eq_true (by kernel_rfl)) k0 bel lt0) trodAll_mk0), rfl, bel.frame _, fun h => by cases h⟩

theorem over : Rows.fnPatternsRow.holds Tryd.pinned (OpenSpec.ofChange Rows.fnPatternsSpec) :=
  OpenClaim.holds_of_wide 5 Tryd.f5 rfl rfl rfl rfl rfl rfl rfl ⟨rfl, rfl, rfl, rfl, rfl⟩ rfl rfl rfl rfl rfl (by kernel_rfl) Tryd.func5 (by kernel_rfl)
    (of_decide_eq_true (by kernel_rfl)) (by unfold Func.isWrapper; first | (rw [if_pos (by decide +kernel)]; kernel_rfl) | (rw [if_neg (by decide +kernel)]; exact ⟨rfl, rfl⟩))
    (fun os started H enc _ => lifted os started H enc)

theorem proved : Rows.FnPatternsCardSaid :=
  Claim7.holds_tied_plain_at .later [] [.data, .pinned] true _ _ over (fun _ h => by cases h) (by kernel_rfl) (fun _ h => by cases h) fnPatterns_row_tie rfl ⟨rfl, rfl⟩ (by kernel_rfl) rfl
    (fun f fn hf hfn => by
      obtain rfl : f = 5 := Option.some.inj ((show Tryd.prog.funcNamed "loop.example/g01371/laws.FnPatterns" = some 5 by kernel_rfl).symm.trans hf) |>.symm
      obtain rfl : fn = Tryd.f5 := (Option.some.inj (Tryd.func5.symm.trans hfn)).symm
      exact ⟨by kernel_rfl, fun j t ht => by
        have hall : (Tryd.f5.params.toList.all fun u => !Tryd.prog.wantsStandIn u) = true := by kernel_rfl
        have hm : t ∈ Tryd.f5.params.toList := by simpa using Array.mem_of_getElem? ht
        exact (show Tryd.prog.wantsStandIn t = false by simpa using List.all_eq_true.1 hall t hm)⟩)
    (by kernel_rfl)
#print axioms proved
end Go.Proofs.YtfipbnognjepkaaDoor.fnPatterns
