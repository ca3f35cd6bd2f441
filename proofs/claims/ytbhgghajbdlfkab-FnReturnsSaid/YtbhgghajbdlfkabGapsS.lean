/- The gaps of a factor: the model. -/
import Derived.Test.YtbhgghajbdlfkabGapsI
import Derived.Test.YtbhgghajbdlfkabPlacesS
import Derived.Deep.LoopGhost
namespace Go.Proofs.Ytbhgghajbdlfkab
set_option linter.unusedVariables false
set_option linter.unusedSimpArgs false
open Go.RowKit

def twoC (x u : ByteArray) : Int := if ¬ (IsW x ∧ IsW u) then 1 else if u.size = 0 then 2 else 0
theorem twoC_bad {x u : ByteArray} (h : ¬ (IsW x ∧ IsW u)) : twoC x u = 1 := if_pos h
theorem twoC_empty {x u : ByteArray} (h : IsW x ∧ IsW u) (k : u.size = 0) : twoC x u = 2 := by unfold twoC; rw [if_neg (not_not_intro h), if_pos k]
theorem twoC_ok {x u : ByteArray} (h : IsW x ∧ IsW u) (k : ¬ u.size = 0) : twoC x u = 0 := by unfold twoC; rw [if_neg (not_not_intro h), if_neg k]

set_option maxRecDepth 100000 in
theorem l05Two_any (x u : ByteArray) (w : World) (sx : x.size ≤ maxLen) (su : u.size ≤ maxLen) :
    Calls Try.prog 73 #[.string x, .string u] w fun e w' => e = .returned (.int .i64 (twoC x u)) ∧ Below w.heap.size w w' := by
  by_cases hx : IsW x
  · by_cases hu : IsW u
    · by_cases h0 : u.size = 0
      · rw [twoC_empty ⟨hx, hu⟩ h0]
        have he := nil_yesG h0
        have HX := Lib.hid hx
        have HU := Lib.hid hu
        clear hx hu h0
        go_enter Try.func73, Try.ntmps73
        go_wp2_with fail
        refine (l01Is_yes x _ HX.out).mono ?_
        rintro e w1 ⟨rfl, b1⟩
        go_wp2_with fail
        refine (l01Is_yes u _ HU.out).mono ?_
        rintro e w2 ⟨rfl, b2⟩
        go_wp2_with fail
        go_ret
        exact ⟨rfl, b1.then b2⟩
      · rw [twoC_ok ⟨hx, hu⟩ h0]
        have he := nil_noG h0
        have HX := Lib.hid hx
        have HU := Lib.hid hu
        clear hx hu h0
        go_enter Try.func73, Try.ntmps73
        go_wp2_with fail
        refine (l01Is_yes x _ HX.out).mono ?_
        rintro e w1 ⟨rfl, b1⟩
        go_wp2_with fail
        refine (l01Is_yes u _ HU.out).mono ?_
        rintro e w2 ⟨rfl, b2⟩
        go_wp2_with fail
        go_ret
        exact ⟨rfl, b1.then b2⟩
    · rw [twoC_bad (fun h => hu h.2)]
      have HX := Lib.hid hx
      have HU := Lib.hid hu
      clear hx hu
      go_enter Try.func73, Try.ntmps73
      go_wp2_with fail
      refine (l01Is_yes x _ HX.out).mono ?_
      rintro e w1 ⟨rfl, b1⟩
      go_wp2_with fail
      refine (l01Is_no u _ su HU.out).mono ?_
      rintro e w2 ⟨rfl, b2⟩
      go_wp2_with fail
      go_ret
      exact ⟨rfl, b1.then b2⟩
  · rw [twoC_bad (fun h => hx h.1)]
    have HX := Lib.hid hx
    clear hx
    go_enter Try.func73, Try.ntmps73
    go_wp2_with fail
    refine (l01Is_no x _ sx HX.out).mono ?_
    rintro e w1 ⟨rfl, b1⟩
    go_wp2_with fail
    go_ret
    exact ⟨rfl, b1⟩

set_option maxRecDepth 100000 in
set_option maxHeartbeats 1000000 in
theorem spec_GapsOf_ok (x u : ByteArray) (w : World) (sx : x.size ≤ maxLen) (su : u.size ≤ maxLen) (h : IsW x ∧ IsW u) (h0 : ¬ u.size = 0) (hj : ¬ (posOf x u (List.range (x.size + 1 - u.size))).length = 0) :
    Calls Try.prog 31 #[.string x, .string u] w (RetI (gapsOf (posOf x u (List.range (x.size + 1 - u.size)))) 0 w) := by
  obtain ⟨i0, hi, hz0, hz1, hz2⟩ := info_parts infoI64
  have hmo : Try.prog.follows .mixedOrders = true := by kernel_rfl
  have HT := Lib.hid fun w => l05Two_any x u w sx su
  rw [twoC_ok h h0] at HT
  have HC := Lib.hid fun w => l01Places_any x u w h.1.size h.2.size
  have hl := posOf_len60 (u := u) h.1
  have hP := posOf_range (u := u) h.1
  generalize posOf x u (List.range (x.size + 1 - u.size)) = P at *
  have HP := Lib.hid hP
  have hn : 0 < P.length := by omega
  clear h h0 hP hj
  go_enter Try.func31, Try.ntmps31
  go_wp2_with fail
  refine (HT.out _).mono ?_
  rintro e w1 ⟨rfl, b1⟩
  go_wp2_with fail
  refine (HC.out _).mono ?_
  rintro e w2 ⟨v, rfl, o1, b2⟩
  have o1 : OwnI w2 w1.heap.size v P := o1
  obtain ⟨g, c, rfl, hBg, hg, hc, hm, cell, _⟩ := o1.row hn
  have B2 := b1.then b2
  have hs2 := b2.size
  have C := Lib.hid cell
  have hpz : ((P.length : Int) == 0) = false := beq_eq_false_iff_ne.2 (by omega)
  clear o1 cell b1 b2
  go_wp2
  go_loopg [8, 9] (P.length - 1) (fun gk o i wr => ∃ j : Nat, j + 1 + gk = P.length ∧ i = .int .i64 ((j : Int) + 1) ∧ wr.ownsRow w2.heap.size 2 1 o j (((gapsOf P).take j).map (Value.int .i64)) ∧ Below w2.heap.size w2 wr)
  case atStart =>
    exact ⟨0, by omega, by simp, World.ownsRow_lit w2 #[] 0 (Nat.le_refl _) (by decide) (by simp), Below.new _ _⟩
  case round =>
    obtain ⟨j, hj, rfl, hown, hB⟩ := hrel
    have hbz := hB.size
    by_cases hp : j + 1 < P.length
    · obtain ⟨gq, rfl⟩ : ∃ gq, gk = gq + 1 := ⟨gk - 1, by omega⟩
      have HJ := Lib.hid hj
      clear hj
      have k0 : wr.cell? ⟨g, j, none⟩ = some (.int .i64 (P[j]'(by omega))) := by rw [(bcell hB).1 g j hg]; exact C.out j (by omega)
      have k1 : wr.cell? ⟨g, j + 1, none⟩ = some (.int .i64 (P[j + 1]'hp)) := by rw [(bcell hB).1 g (j + 1) hg]; exact C.out (j + 1) hp
      have HS := Lib.hid (gapsOf_take P j hp)
      have p0 := HP.out _ (List.getElem_mem (show j < P.length by omega))
      have p1 := HP.out _ (List.getElem_mem hp)
      generalize P[j]'(by omega) = a at *
      generalize P[j + 1]'hp = b at *
      have hjc : j < c := by omega
      have hjc1 : j + 1 < c := by omega
      have hpi : (j : Int) + 1 < (P.length : Int) := by omega
      have hpj : (j : Int) < (P.length : Int) := by omega
      have hpn : j < P.length := by omega
      have e0 : (0 : Int) ≤ (j : Int) + 1 := by omega
      have e1 : ((j : Int) + 1).toNat = j + 1 := by omega
      have wq1 : IntKind.i64.wrap (j : Int) = (j : Int) := IntWalk.i64_in _ (by omega)
      have wq2 : IntKind.i64.wrap (b - a) = b - a := IntWalk.i64_in _ (by omega)
      have hgw : g < wr.heap.size := by omega
      have hne : u8.ownBlock ≠ some g := fun e => by have := (hown.lt g e).1; omega
      go_wp2_with fail
      go_region_held3 (fun w' => w'.cell? ⟨g, j, none⟩ = some (.int .i64 a) ∧ w'.cell? ⟨g, j + 1, none⟩ = some (.int .i64 b))
        (first | go_keep | (go_split_ands; refine ⟨?_, ?_⟩ <;> (rw [hgrow.cell_far _ (by simp; omega) (Ne.symm hne)]; assumption)))
        ((refine step_append_lies _ (by rfl) _ _ _ (by rfl) w2.heap.size 2 i0 _ 1 8 Try.underlying41 hi hz0 hz1 hz2 rfl (by omega) u8 j (((gapsOf P).take j).map (Value.int .i64)) (by rfl) ((hown.alloc _).drew) ⟨wr.heap.size, 0, none⟩ 1 1 [.int .i64 (b - a)] (by rfl) (by rfl) (World.news_of_block (cs := #[.int .i64 (b - a)]) (t := 2) (fr := (0, 0)) (heap_alloc_new wr _)) (by simp [Value.oneCell']) (by omega) (by unfold maxLen; omega) (by omega) (by simp; omega) (wr.heap.size + 1) (by simp) ?_; intro gg cap w3 hown' hgrow hat hlt))
      go_wp2
      go_roundg gq
      case measure => omega
      case rel =>
        refine ⟨j + 1, by have := HJ.out; omega, by go_num, ?_, ?_⟩
        · rw [HS.out, List.map_append]; exact hown'
        · exact ((hB.drew).alloc hbz _).grown hgrow (by simp; omega) (fun q hq => (hown.lt q hq).1)
    · obtain rfl : gk = 0 := by omega
      have hje : j = P.length - 1 := by omega
      clear hj
      have hpi : ¬ (j : Int) + 1 < (P.length : Int) := by omega
      have HO := Lib.hid hown
      clear hown
      go_wp2
      go_ret2
      refine ⟨_, rfl, ?_, B2.then hB⟩
      have h2 := HO.out
      have h3 : (gapsOf P).take j = gapsOf P := List.take_of_length_le (by rw [gapsOf_len]; omega)
      rw [h3] at h2
      unfold OwnI
      rw [gapsOf_len, ← hje]
      exact own_base h2 B2.size

set_option maxRecDepth 100000 in
theorem spec_GapsOf (x u : ByteArray) (w : World) (sx : x.size ≤ maxLen) (su : u.size ≤ maxLen) :
    Calls Try.prog 31 #[.string x, .string u] w (RetI (gapsR x u).1 (gapsR x u).2 w) := by
  have HT := Lib.hid fun w => l05Two_any x u w sx su
  by_cases h : IsW x ∧ IsW u
  · by_cases h0 : u.size = 0
    · rw [gapsR_empty h h0]
      rw [twoC_empty h h0] at HT
      have H := Lib.hid h
      clear h h0
      go_enter Try.func31, Try.ntmps31
      go_wp2_with fail
      refine (HT.out _).mono ?_
      rintro e w1 ⟨rfl, b1⟩
      go_wp2_with fail
      go_ret2
      exact ⟨_, rfl, OwnI.nil _ _, b1⟩
    · by_cases hj : (posOf x u (List.range (x.size + 1 - u.size))).length = 0
      · rw [gapsR_none h h0 hj]
        rw [twoC_ok h h0] at HT
        have HC := Lib.hid fun w => l01Places_any x u w h.1.size h.2.size
        rw [List.eq_nil_of_length_eq_zero hj] at HC
        have H := Lib.hid h
        clear h h0 hj
        go_enter Try.func31, Try.ntmps31
        go_wp2_with fail
        refine (HT.out _).mono ?_
        rintro e w1 ⟨rfl, b1⟩
        go_wp2_with fail
        refine (HC.out _).mono ?_
        rintro e w2 ⟨v, rfl, o1, b2⟩
        obtain ⟨aI, cI, rfl⟩ := OwnI.empty o1
        go_wp2_with fail
        go_ret2
        exact ⟨_, rfl, OwnI.nil _ _, (b1.then b2).alloc (b1.then b2).size _⟩
      · rw [gapsR_ok h h0 hj]
        exact spec_GapsOf_ok x u w sx su h h0 hj
  · rw [gapsR_bad h]
    rw [twoC_bad h] at HT
    have H := Lib.hid h
    clear h
    go_enter Try.func31, Try.ntmps31
    go_wp2_with fail
    refine (HT.out _).mono ?_
    rintro e w1 ⟨rfl, b1⟩
    go_wp2_with fail
    go_ret2
    exact ⟨_, rfl, OwnI.nil _ _, b1⟩

end Go.Proofs.Ytbhgghajbdlfkab
