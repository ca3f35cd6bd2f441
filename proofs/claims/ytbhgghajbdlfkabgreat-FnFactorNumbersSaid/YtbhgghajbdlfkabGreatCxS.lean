/- The numbers of factors by length, and their sum: both sides. -/
import Derived.Test.YtbhgghajbdlfkabGreatCx
import Derived.Test.YtbhgghajbdlfkabGreatFactorsS
namespace Go.Proofs.YtbhgghajbdlfkabGreat
set_option linter.unusedVariables false
set_option linter.unusedSimpArgs false
open Go.RowKit

theorem impl_ComplexityOf (x : ByteArray) (w : World) (sx : x.size ≤ maxLen) :
    Calls Tryz.prog 22 #[.string x] w (RetI (cxR x).1 (cxR x).2 w) := by
  by_cases h : IsW x
  · rw [cxR_ok h]
    exact impl_ComplexityOf_ok x w h sx
  · rw [cxR_bad h]
    have H := Lib.hid h
    clear h
    go_enter Tryz.func22, Tryz.ntmps22
    go_wp2_with (go_at_call 80; refine (isWord_not x _ sx H.out).mono ?_; rintro e w1 ⟨rfl, b1⟩)
    go_ret2
    exact ⟨_, rfl, OwnI.nil _ _, b1⟩

theorem OwnI.lookX {w : World} {B : Nat} {v : Value} {L : List Int} (h : OwnI w B v L) : ∃ ad cap, v = .slice ad L.length cap ∧ ∀ j (hj : j < L.length), ∃ g, ad = some ⟨g, 0, none⟩ ∧ g < w.heap.size ∧ j < cap ∧ w.cell? ⟨g, j, none⟩ = some (.int .i64 (L[j]'hj)) := by
  rcases own_forms h with ⟨rfl, h0, _⟩ | ⟨g, cap, rfl, _, hg, hc, _, hk, _⟩
  · exact ⟨_, _, by rw [h0], fun j hj => by omega⟩
  · refine ⟨_, _, rfl, fun j hj => ⟨g, rfl, hg, by omega, ?_⟩⟩
    rw [hk j hj]
    simp [hj]
theorem OwnS.formX {w : World} {B : Nat} {v : Value} {L : List ByteArray} (h : OwnS w B v L) : ∃ a c, v = .slice a L.length c := by
  rcases own_forms h with ⟨rfl, h0, _⟩ | ⟨g, cap, rfl, _⟩
  · exact ⟨_, _, by rw [h0]⟩
  · exact ⟨_, _, rfl⟩
theorem cxR_all (x : ByteArray) : (cxR x).1.length ≤ 61 ∧ (∀ z ∈ (cxR x).1, 0 ≤ z ∧ z ≤ 61) ∧ cfR x = ((cxR x).1.sum, (cxR x).2) := by
  by_cases h : IsW x
  · have h1 := h.size
    rw [cxR_ok h, cfR_ok h]
    exact ⟨by show (cxs x (x.size + 1)).length ≤ 61; rw [cxs_len]; omega, cxs_bound x h1 _, rfl⟩
  · rw [cxR_bad h, cfR_bad h]
    exact ⟨by decide, by simp, rfl⟩
theorem sum_take_bound (L : List Int) (h : ∀ z ∈ L, 0 ≤ z ∧ z ≤ 61) (hl : L.length ≤ 61) (i : Nat) : 0 ≤ (L.take i).sum ∧ (L.take i).sum ≤ 3721 := by
  have h1 := sum_bound (L.take i) 61 (fun z hz => h z (List.mem_of_mem_take hz))
  rw [List.length_take] at h1
  omega

set_option maxRecDepth 100000 in
set_option maxHeartbeats 1000000 in
theorem impl_CountFactors (x : ByteArray) (w : World) (sx : x.size ≤ maxLen) :
    Calls Tryz.prog 24 #[.string x] w fun e w' => e = .returned (.tuple #[.int .i64 (cfR x).1, .int .i64 (cfR x).2]) ∧ Below w.heap.size w w' := by
  have HC := Lib.hid (impl_ComplexityOf x w sx)
  obtain ⟨hl, hb, he⟩ := cxR_all x
  rw [he]
  dsimp only
  generalize (cxR x).1 = L at *
  generalize (cxR x).2 = cd at *
  have HB := Lib.hid hb
  clear he hb
  go_enter Tryz.func24, Tryz.ntmps24
  go_wp2_with (go_at_call 22; refine HC.out.mono ?_; rintro e w1 ⟨v, rfl, o1, b1⟩; obtain ⟨a1, c1, rfl, k1⟩ := OwnI.lookX o1; have K1 := Lib.hid k1; clear o1 k1)
  go_loopg [6, 16] L.length (fun gk s i wr => ∃ k : Nat, k + gk = L.length ∧ i = .int .i64 (k : Int) ∧ s = .int .i64 (L.take k).sum ∧ Below w1.heap.size w1 wr)
  case atStart => exact ⟨0, by omega, rfl, rfl, Below.refl _ _⟩
  case round =>
    obtain ⟨k, hk, rfl, rfl, hB⟩ := hrel
    by_cases hp : k < L.length
    · obtain ⟨gq, rfl⟩ : ∃ gq, gk = gq + 1 := ⟨gk - 1, by omega⟩
      have HK := Lib.hid hk
      obtain ⟨g, rfl, hg, hkc, hc0⟩ := K1.out k hp
      have hc := ((bcell hB).1 g k hg).trans hc0
      have hpi : (k : Int) < (L.length : Int) := by omega
      have HS := Lib.hid (sum_take L k hp)
      have h1 := sum_take_bound L HB.out hl k
      have h2 := HB.out _ (List.getElem_mem hp)
      clear hk hc0
      generalize L[k]'hp = z at *
      generalize (L.take k).sum = s at *
      go_wp2
      go_roundg gq
      case measure => omega
      case rel => exact ⟨k + 1, by have := HK.out; omega, by go_num, by rw [HS.out], hB⟩
    · obtain rfl : gk = 0 := by omega
      obtain rfl : k = L.length := by omega
      rw [List.take_length]
      have hpi : ¬ ((L.length : Int) < (L.length : Int)) := by omega
      go_wp2
      go_ret2
      exact ⟨rfl, b1.then hB⟩

set_option maxRecDepth 100000 in
set_option maxHeartbeats 1000000 in
theorem l05Numbers_any (x : ByteArray) (w : World) (hx : x.size ≤ 60) :
    Calls Tryz.prog 88 #[.string x] w fun e w' => ∃ v, e = .returned v ∧ OwnI w' w.heap.size v (cxs x (x.size + 1)) ∧ Below w.heap.size w w' := by
  obtain ⟨i0, hi, hz0, hz1, hz2⟩ := info_parts infoI64
  have HC : Hid (∀ (m : Nat) (W : World), m ≤ 60 → Calls Tryz.prog 78 #[.string x, .int .i64 (m : Int)] W fun e w' => ∃ v, e = .returned v ∧ OwnS w' W.heap.size v (facs x m) ∧ Below W.heap.size W w') := Lib.hid fun m W hm => l01Factors_any x m W hx hm
  go_enter Tryz.func88, Tryz.ntmps88
  go_wp2
  go_loopg [3, 4] (x.size + 1) (fun gk v i wr => ∃ k : Nat, k + gk = x.size + 1 ∧ i = .int .i64 (k : Int) ∧ wr.ownsRow w.heap.size 2 1 v k ((cxs x k).map (Value.int .i64)) ∧ Below w.heap.size w wr)
  case atStart => exact ⟨0, by omega, rfl, World.ownsRow_lit w #[] 0 (Nat.le_refl _) (by decide) (by simp), Below.new _ _⟩
  case round =>
    obtain ⟨k, hk, rfl, hown, hB⟩ := hrel
    by_cases hp : k < x.size + 1
    · obtain ⟨gq, rfl⟩ : ∃ gq, gk = gq + 1 := ⟨gk - 1, by omega⟩
      have HK := Lib.hid hk
      have HS := Lib.hid (cxs_succ x k)
      have hF : (facs x k).length ≤ 61 := by have := facs_len x k; omega
      clear hk
      have hkx : (k : Int) ≤ (x.size : Int) := by omega
      go_wp2_with fail
      refine (HC.out k _ (by omega)).mono ?_
      rintro e w2 ⟨v2, rfl, o2, b2⟩
      have hown := own_below hown b2
      have hB := hB.then b2
      have hbz := hB.size
      obtain ⟨a2, c2, rfl⟩ := OwnS.formX o2
      generalize facs x k = FF at *
      generalize cxs x k = C at *
      clear o2 b2
      go_wp2_with (at_builtin; refine wpList_append_own _ rfl _ _ 36 rfl w.heap.size 2 i0 (.int .i64 0) 1 8 Tryz.underlying36 hi hz0 hz1 hz2 rfl (by decide) _ _ _ rfl (hown.alloc _) ⟨_, 0, none⟩ 1 1 [.int .i64 (FF.length : Int)] rfl rfl (cell_new _ _ _) (by intro u hu; simp at hu; subst hu; rfl) (by unfold maxLen; omega) (by omega) (by simp; omega) ?_; intro v' w3 hown' hgrow _)
      go_roundg gq
      case measure => omega
      case rel =>
        refine ⟨k + 1, by have := HK.out; omega, by go_num, ?_, ?_⟩
        · rw [HS.out, ← map_snoc]; exact hown'
        · exact (hB.alloc hbz _).grown hgrow (by simp; omega) (fun q hq => (hown.lt q hq).1)
    · obtain rfl : gk = 0 := by omega
      obtain rfl : k = x.size + 1 := by omega
      have HO := Lib.hid hown
      clear hown
      have hkx : ¬ ((x.size : Int) + 1 ≤ (x.size : Int)) := by omega
      go_wp2
      go_ret
      refine ⟨_, rfl, ?_, hB⟩
      unfold OwnI
      rw [cxs_len]
      exact HO.out

set_option maxRecDepth 100000 in
theorem spec_ComplexityOf (x : ByteArray) (w : World) (sx : x.size ≤ maxLen) :
    Calls Tryz.prog 23 #[.string x] w (RetI (cxR x).1 (cxR x).2 w) := by
  by_cases h : IsW x
  · rw [cxR_ok h]
    have hx := h.size
    have H := Lib.hid h
    clear h
    go_enter Tryz.func23, Tryz.ntmps23
    go_wp2_with fail
    refine (l01Is_yes x _ H.out).mono ?_
    rintro e w1 ⟨rfl, b1⟩
    go_wp2_with fail
    refine (l05Numbers_any x _ hx).mono ?_
    rintro e w2 ⟨v, rfl, o2, b2⟩
    go_wp2_with fail
    go_ret2
    exact ⟨_, rfl, OwnI.base o2 b1.size, b1.then b2⟩
  · rw [cxR_bad h]
    have H := Lib.hid h
    clear h
    go_enter Tryz.func23, Tryz.ntmps23
    go_wp2_with fail
    refine (l01Is_no x _ sx H.out).mono ?_
    rintro e w1 ⟨rfl, b1⟩
    go_wp2_with fail
    go_ret2
    exact ⟨_, rfl, OwnI.nil _ _, b1⟩

set_option maxRecDepth 100000 in
set_option maxHeartbeats 1000000 in
theorem spec_CountFactors (x : ByteArray) (w : World) (sx : x.size ≤ maxLen) :
    Calls Tryz.prog 25 #[.string x] w fun e w' => e = .returned (.tuple #[.int .i64 (cfR x).1, .int .i64 (cfR x).2]) ∧ Below w.heap.size w w' := by
  by_cases h : IsW x
  · rw [cfR_ok h]
    have hx := h.size
    have HC := Lib.hid fun w => l05Numbers_any x w hx
    have hl : (cxs x (x.size + 1)).length ≤ 61 := by rw [cxs_len]; omega
    have HB := Lib.hid (cxs_bound x hx (x.size + 1))
    generalize cxs x (x.size + 1) = L at *
    have H := Lib.hid h
    clear h
    go_enter Tryz.func25, Tryz.ntmps25
    go_wp2_with fail
    refine (l01Is_yes x _ H.out).mono ?_
    rintro e w0 ⟨rfl, b0⟩
    go_wp2_with fail
    refine (HC.out _).mono ?_
    rintro e w1 ⟨v, rfl, o1, b1⟩
    obtain ⟨a1, c1, rfl, k1⟩ := OwnI.lookX o1
    have K1 := Lib.hid k1
    clear o1 k1
    go_wp2
    go_loopg [5, 6] L.length (fun gk s i wr => ∃ k : Nat, k + gk = L.length ∧ i = .int .i64 (k : Int) ∧ s = .int .i64 (L.take k).sum ∧ Below w1.heap.size w1 wr)
    case atStart => exact ⟨0, by omega, rfl, rfl, Below.refl _ _⟩
    case round =>
      obtain ⟨k, hk, rfl, rfl, hB⟩ := hrel
      by_cases hp : k < L.length
      · obtain ⟨gq, rfl⟩ : ∃ gq, gk = gq + 1 := ⟨gk - 1, by omega⟩
        have HK := Lib.hid hk
        obtain ⟨g, rfl, hg, hkc, hc0⟩ := K1.out k hp
        have hc := ((bcell hB).1 g k hg).trans hc0
        have hpi : (k : Int) < (L.length : Int) := by omega
        have HS := Lib.hid (sum_take L k hp)
        have h1 := sum_take_bound L HB.out hl k
        have h2 := HB.out _ (List.getElem_mem hp)
        clear hk hc0
        generalize L[k]'hp = z at *
        generalize (L.take k).sum = s at *
        go_wp2
        go_roundg gq
        case measure => omega
        case rel => exact ⟨k + 1, by have := HK.out; omega, by go_num, by rw [HS.out], hB⟩
      · obtain rfl : gk = 0 := by omega
        obtain rfl : k = L.length := by omega
        rw [List.take_length]
        have hpi : ¬ ((L.length : Int) < (L.length : Int)) := by omega
        go_wp2
        go_ret2
        exact ⟨rfl, (b0.then b1).then hB⟩
  · rw [cfR_bad h]
    have H := Lib.hid h
    clear h
    go_enter Tryz.func25, Tryz.ntmps25
    go_wp2_with fail
    refine (l01Is_no x _ sx H.out).mono ?_
    rintro e w1 ⟨rfl, b1⟩
    go_wp2_with fail
    go_ret2
    exact ⟨rfl, b1⟩

end Go.Proofs.YtbhgghajbdlfkabGreat
