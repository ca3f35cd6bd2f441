/- Covers, seeds, best borders and uncovered places in the program. -/
import Derived.Test.YtfipbnognjepkaaGreatDoorCvC
import Derived.Test.YtfipbnognjepkaaGreatDoorCovI
import Derived.Test.YtfipbnognjepkaaGreatDoorSeedPlain
import Derived.Test.YtfipbnognjepkaaGreatDoorLib
import Derived.Test.YtfipbnognjepkaaGreatDoorDoorT
import Derived.Test.YtfipbnognjepkaaGreatDoorFactorsI
import Derived.Deep.RegionHeld3
import Derived.Laws.Pointers
import Derived.Test.YtfipbnognjepkaaGreatDoorCovPlain
import Derived.Test.YtfipbnognjepkaaGreatDoorBbPlain
import Derived.Test.YtfipbnognjepkaaGreatDoorBorders
import Derived.Lib.TrailingZeros
import Derived.Shelf.Spec.TrailingZeros
import Derived.Test.YtfipbnognjepkaaGreatDoorRows
import Derived.LaidMore
import Derived.Lay
import Derived.Stop.Joined

/-! ### CvF -/
namespace Go.Proofs.YtfipbnognjepkaaGreatDoor
set_option linter.unusedVariables false
set_option linter.unusedSimpArgs false
open Go.RowKit

theorem cvs_size {x : ByteArray} (h : x.size ≤ 60) : ∀ z ∈ cvs x, z.size ≤ 60 := fun z hz => Nat.le_trans (cvs_mem hz) h

set_option maxRecDepth 100000 in
set_option maxHeartbeats 1000000 in
theorem leastCover1_any (b : Nat) (x : ByteArray) (w : World) (c1 : Boxed w b 9 (.string x)) (sx : x.size ≤ maxLen) :
    Calls Tryz.prog 87 #[.pointer (some ⟨b, 0, none⟩)] w fun e w' => EndT (leastCoverR x) e ∧ Below w.heap.size w w' := by
  have k1 := c1.cell
  have l1 := c1.lt
  by_cases h : IsW x
  · by_cases h0 : x.size = 0
    · rw [leastCoverR_empty h h0]
      have hq := nil_yesC h0
      have H := Lib.hid h
      clear h
      go_enter Tryz.func87, Tryz.ntmps87
      go_wp2_with (first | (go_at_call 77; refine (isWord_yes x _ H.out).mono ?_; rintro e w1 ⟨rfl, a1⟩; have k2 := (boxed_past c1 a1 l1).cell) | (go_at_call 55; first | (with_reducible refine (refuse_yes _ _).mono ?_; rintro e w2 ⟨rfl, rfl⟩) | (with_reducible refine (refuse_no _ _).mono ?_; rintro e w2 ⟨rfl, rfl⟩)))
      exact ⟨rfl, .inr ⟨rfl, rfl⟩, a1⟩
    · rw [leastCoverR_ok h h0]
      have hq := nil_noC h0
      have h1 := h.size
      have H := Lib.hid h
      have HS := Lib.hid (cvs_size h1)
      have hl := cvs_len x
      have hp := cvs_pos (x := x) (by omega)
      have HG := Lib.hid (lc_get (x := x) (by omega))
      clear h
      go_enter Tryz.func87, Tryz.ntmps87
      go_wp2_with (first | (go_at_call 77; refine (isWord_yes x _ H.out).mono ?_; rintro e w1 ⟨rfl, a1⟩; have k2 := (boxed_past c1 a1 l1).cell) | (go_at_call 55; first | (with_reducible refine (refuse_yes _ _).mono ?_; rintro e w2 ⟨rfl, rfl⟩) | (with_reducible refine (refuse_no _ _).mono ?_; rintro e w2 ⟨rfl, rfl⟩)) | (go_at_call 88; refine (coversOf_any x _ H.out).mono ?_; rintro e w3 ⟨v3, rfl, o3, a3⟩) | (go_at_call 89; refine (texts_C _ _ _ _ o3 (by omega) HS.out).mono ?_; rintro e w4 ⟨v4, rfl, o4, a4⟩; obtain ⟨g4, c4, rfl, z1, z2, z3, z4, z5, z6⟩ := o4.row hp; have y1 := z5 0 hp; rw [HG.out] at y1; clear z5; have y2 : (0 : Int) < ((cvs x).length : Int) := (by omega)))
      go_ret
      exact ⟨.inl ⟨rfl, rfl⟩, (a1.then a3).then a4⟩
  · rw [leastCoverR_bad h]
    have H := Lib.hid h
    clear h
    go_enter Tryz.func87, Tryz.ntmps87
    go_wp2_with (first | (go_at_call 77; refine (isWord_not x _ sx H.out).mono ?_; rintro e w1 ⟨rfl, a1⟩) | (go_at_call 55; refine (refuse_no _ _).mono ?_; rintro e w2 ⟨rfl, rfl⟩))
    exact ⟨rfl, .inr ⟨rfl, rfl⟩, a1⟩

set_option maxRecDepth 100000 in
theorem impl_LeastCover (x : ByteArray) (w : World) (sx : x.size ≤ maxLen) :
    Calls Tryz.prog 28 #[.string x] w fun e w' => e = .returned (.tuple #[.string (leastCoverR x).1, .int .i64 (leastCoverR x).2]) ∧ Below w.heap.size w w' := by
  have hmf : ∀ (fn : Fn) (first cap : Array Value) (w : World), (Instr.makeFunc fn first cap).run Tryz.prog w = .ok (.func fn first cap) w := fun _ _ _ _ => rfl
  have c1 : Boxed ((w.alloc (.cells #[.string x] 9)).alloc (.cells #[.int .i64 0] 2)) w.heap.size 9 (.string x) := (Boxed.new w _ _).alloc _
  have hB : Below w.heap.size w (w.alloc (.cells #[.string x] 9)) := Below.new _ _
  go_enter Tryz.func28, Tryz.ntmps28
  go_wp2_with (go_at_call 53; refine (door_text 87 _ _ (leastCoverR x) (enters_of Tryz.func87 (by kernel_rfl) rfl) (leastCover1_any w.heap.size x _ c1 sx)).mono ?_; rintro e w1 ⟨rfl, b1⟩)
  go_ret2
  exact ⟨rfl, hB.then b1⟩

end Go.Proofs.YtfipbnognjepkaaGreatDoor

/-! ### SdC -/
namespace Go.Proofs.YtfipbnognjepkaaGreatDoor
set_option linter.unusedVariables false
set_option linter.unusedSimpArgs false
open Go.RowKit

theorem slice_seed_to (u : ByteArray) (m : Nat) (h : m ≤ u.size) (W : World) :
    (Instr.slice 93 (.string u) none (some (.int .i64 (m : Int))) none).run Tryz.prog W = .ok (.string (u.extract 0 m)) W := by
  have := run_slice_string_h (P := Tryz.prog) W 93 u Tryz.underlying93 .i64 (m : Int) (by omega) (by omega)
  simpa using this
theorem slice_seed_from (u : ByteArray) (m : Nat) (h : m ≤ u.size) (W : World) :
    (Instr.slice 93 (.string u) (some (.int .i64 (m : Int))) none none).run Tryz.prog W = .ok (.string (u.extract m u.size)) W := by
  have := run_slice_string_l (P := Tryz.prog) W 93 u Tryz.underlying93 .i64 (m : Int) (by omega) (by omega)
  simpa using this
theorem smk_lt64 {x u : ByteArray} {k : Nat} (h : x.size ≤ 60) (hk : k ≤ x.size) : smk x u k < 18446744073709551616 := by
  have h1 := smk_lt (x := x) (u := u) hk
  have h2 : 2 ^ x.size ≤ 2 ^ 60 := Nat.pow_le_pow_right (by omega) h
  omega
theorem mskF_lt64 {i m : Nat} (h : i + m ≤ 60) : mskF i m < 18446744073709551616 := by
  have h1 := mskF_lt h
  omega
theorem or_lt64 {a b : Nat} (h : a < 18446744073709551616) (k : b < 18446744073709551616) : a ||| b < 18446744073709551616 := by
  have := Nat.or_lt_two_pow (x := a) (y := b) (n := 64) (by omega) (by omega)
  omega

set_option maxRecDepth 100000 in
set_option maxHeartbeats 4000000 in
theorem seed_covered (x u : ByteArray) (w : World) (hx : x.size ≤ 60) (hu : u.size ≤ x.size) :
    Calls Tryz.prog 237 #[.string u, .string x] w fun e w' => e = .returned (.int .u64 ((smk x u (u.size - 1) : Nat) : Int)) ∧ Below w.heap.size w w' := by
  have hu60 : u.size ≤ 60 := by omega
  have hc := fun W => callsIn_wide.1 (inner_covered_in x u W hx hu60)
  have HC := Lib.hid hc
  clear hc
  go_enter Tryz.func237, Tryz.ntmps237
  go_wp2_with (go_at_call 94; refine (HC.out _).mono ?_; rintro e w1 ⟨rfl, b1⟩)
  go_loopw [5, 6] (fun s5 s6 wr => wr = w1 ∧ ∃ m : Nat, 1 ≤ m ∧ (m ≤ u.size ∨ m = 1) ∧ s6 = .int .i64 (m : Int) ∧ s5 = .int .u64 ((smk x u (m - 1) : Nat) : Int))
    (fun _ s6 _ => u.size + 1 - (intOf s6).toNat)
  case atStart => exact ⟨rfl, 1, Nat.le_refl _, .inr rfl, rfl, rfl⟩
  case round =>
    obtain ⟨rfl, m, hm1, hm2, rfl, rfl⟩ := hrel
    by_cases hp : m < u.size
    · have hmu : (m : Int) < (u.size : Int) := by omega
      obtain ⟨p, hpp⟩ : ∃ p : Nat, u.size - m = p := ⟨_, rfl⟩
      obtain ⟨q, hqq⟩ : ∃ q : Nat, x.size - m = q := ⟨_, rfl⟩
      have e1 : (u.size : Int) - (m : Int) = (p : Int) := by omega
      have e2 : (x.size : Int) - (m : Int) = (q : Int) := by omega
      have hs1 := slice_seed_from u p (by omega)
      have hs2 := slice_seed_to u m (by omega)
      have hL := hgL_prefix (x := x) (u := u) (m := m) (by omega)
      have hR := hgR_suffix (x := x) (u := u) (m := m) (by omega) (by omega)
      rw [hpp] at hL
      have hCL := fun W => Tryz.strings_HasPrefix x (u.extract p u.size) W
      have hCR := fun W => Tryz.strings_HasSuffix x (u.extract 0 m) W (by omega)
      have hCL2 : ∀ W, Calls Tryz.prog 238 #[.string x, .string (u.extract p u.size)] W fun e w' => e = .returned (.bool (hgL x u m)) ∧ w' = W := fun W => (hCL W).mono (by rintro e w' ⟨rfl, rfl⟩; exact ⟨by rw [← hL]; rfl, rfl⟩)
      have hCR2 : ∀ W, Calls Tryz.prog 150 #[.string x, .string (u.extract 0 m)] W fun e w' => e = .returned (.bool (hgR x u m)) ∧ w' = W := fun W => (hCR W).mono (by rintro e w' ⟨rfl, rfl⟩; exact ⟨by rw [← hR]; rfl, rfl⟩)
      have hstep : smk x u m = (if hgR x u m = true then (if hgL x u m = true then smk x u (m - 1) ||| mskF 0 m else smk x u (m - 1)) ||| mskF q m
          else (if hgL x u m = true then smk x u (m - 1) ||| mskF 0 m else smk x u (m - 1))) := by
        obtain ⟨k, rfl⟩ : ∃ k, m = k + 1 := ⟨m - 1, by omega⟩
        rw [← hqq]
        rfl
      have za : smk x u (m - 1) < 18446744073709551616 := smk_lt64 hx (by omega)
      have zb : mskF 0 m < 18446744073709551616 := mskF_lt64 (by omega)
      have zc : mskF q m < 18446744073709551616 := mskF_lt64 (by omega)
      have o1 := bits_or_u64_nat _ _ za zb
      have o2 := bits_or_u64_nat _ _ za zc
      have o3 := bits_or_u64_nat _ _ (or_lt64 za zb) zc
      have pf1 : ∀ W, Calls Tryz.prog 101 #[.int .i64 0, .int .i64 (m : Int)] W fun e w' => e = .returned (.int .u64 ((mskF 0 m : Nat) : Int)) ∧ w' = W := fun W => placesFrom_any 0 m W (by omega)
      have pf2 := fun W => placesFrom_any q m W (by omega)
      clear hL hR hCL hCR hpp hqq za zb zc
      generalize u.extract p u.size = t1 at *
      generalize u.extract 0 m = t2 at *
      have C1 := Lib.hid hCL2
      have C2 := Lib.hid hCR2
      have P1 := Lib.hid pf1
      have P2 := Lib.hid pf2
      clear hCL2 hCR2 pf1 pf2
      generalize mskF 0 m = f1 at *
      generalize mskF q m = f2 at *
      have HS := Lib.hid hstep
      have e9 : m + 1 - 1 = m := by omega
      cases h1 : hgL x u m <;> cases h2 : hgR x u m <;>
      · rw [h1, h2] at hstep
        simp only [Bool.false_eq_true, if_false, if_true] at hstep
        have HS := Lib.hid hstep
        rw [h1] at C1
        rw [h2] at C2
        clear hstep h1 h2
        generalize smk x u (m - 1) = a at *
        go_wp2_with (first | (go_at_call 238; refine (C1.out _).mono ?_; rintro e w2 ⟨rfl, rfl⟩) | (go_at_call 150; refine (C2.out _).mono ?_; rintro e w2 ⟨rfl, rfl⟩) | (go_at_call 101; first | (with_reducible refine (P1.out _).mono ?_; rintro e w2 ⟨rfl, rfl⟩) | (with_reducible refine (P2.out _).mono ?_; rintro e w2 ⟨rfl, rfl⟩)))
        go_roundw
        case rel => exact ⟨trivial, m + 1, by omega, .inl (by omega), by go_num, by rw [e9, HS.out]⟩
        case measure => simp [intOf]; omega
    · have hmu : ¬ (m : Int) < (u.size : Int) := by omega
      have e9 : m - 1 = u.size - 1 := by omega
      rw [e9]
      go_wp2_with fail
      go_ret
      exact ⟨rfl, b1⟩

theorem seed_beq {x u : ByteArray} (h : u.size ≤ x.size) : (((smk x u (u.size - 1) : Nat) : Int) == ((mskF 0 x.size : Nat) : Int)) = sdAll x u :=
  full_beq (smk_lt (by omega)) (fun j => smk_bit x u j _ (by omega))
set_option maxHeartbeats 1000000 in
theorem coversAll_seed (x u : ByteArray) (w : World) (hx : x.size ≤ 60) (hu : u.size ≤ x.size) :
    Calls Tryz.prog 86 #[.iface 93 (.string u), .string x] w fun e w' => e = .returned (.bool (sdAll x u)) ∧ Below w.heap.size w w' := by
  have hb := seed_beq hu
  go_enter Tryz.func86, Tryz.ntmps86
  go_wp2_with (first | (go_at_call 237; refine (seed_covered x u _ hx hu).mono ?_; rintro e w1 ⟨rfl, b1⟩) | (go_at_call 101; refine (placesFrom_any 0 x.size _ (by omega)).mono ?_; rintro e w2 ⟨rfl, rfl⟩))
  go_ret
  exact ⟨rfl, b1⟩

end Go.Proofs.YtfipbnognjepkaaGreatDoor

/-! ### SdI -/
namespace Go.Proofs.YtfipbnognjepkaaGreatDoor
set_option linter.unusedVariables false
set_option linter.unusedSimpArgs false
open Go.RowKit

theorem infoD : (Tryz.prog.info? 93).map (fun i => (i.zero, i.size, i.bytes)) = some (some (.string ⟨#[]⟩), 1, 16) := by kernel_rfl
/-- A list of words of this kind that a call made. -/
def OwnD (w : World) (B : Nat) (v : Value) (L : List ByteArray) : Prop := w.ownsRow B 93 1 v L.length (L.map (Value.string))
theorem ownD_nil (w : World) (B : Nat) : OwnD w B (.slice none 0 0) [] := World.ownsRow_nil _ _ _ _
theorem ownD_snoc {w : World} {B : Nat} {v : Value} {L : List ByteArray} {s : ByteArray} (h : w.ownsRow B 93 1 v (L.length + 1) (L.map Value.string ++ [Value.string s])) : OwnD w B v (L ++ [s]) := by
  unfold OwnD
  rw [List.length_append, List.map_append]
  exact h
theorem ownD_look {w : World} {B : Nat} {v : Value} {L : List ByteArray} (h : OwnD w B v L) : ∃ ad cap, v = .slice ad L.length cap ∧ ∀ j (hj : j < L.length), ∃ g, ad = some ⟨g, 0, none⟩ ∧ g < w.heap.size ∧ j < cap ∧ w.cell? ⟨g, j, none⟩ = some (.string (L[j]'hj)) := by
  rcases own_forms h with ⟨rfl, h0, _⟩ | ⟨g, cap, rfl, _, hg, hc, _, hk, _⟩
  · exact ⟨_, _, by rw [h0], fun j hj => by omega⟩
  · refine ⟨_, _, rfl, fun j hj => ⟨g, rfl, hg, by omega, ?_⟩⟩
    rw [hk j hj]
    simp [hj]
theorem filtD_hit {L : List ByteArray} {p : ByteArray → Bool} {k : Nat} (h : k < L.length) (hp : p (L[k]'h) = true) : (L.take (k + 1)).filter p = (L.take k).filter p ++ [L[k]'h] := by
  rw [List.take_succ_eq_append_getElem h, List.filter_append]; simp [hp]
theorem filtD_miss {L : List ByteArray} {p : ByteArray → Bool} {k : Nat} (h : k < L.length) (hp : p (L[k]'h) = false) : (L.take (k + 1)).filter p = (L.take k).filter p := by
  rw [List.take_succ_eq_append_getElem h, List.filter_append]; simp [hp]

set_option maxRecDepth 100000 in
set_option maxHeartbeats 2000000 in
theorem coveringAll_D (B : Nat) (v : Value) (L : List ByteArray) (x : ByteArray) (w : World) (h : OwnD w B v L) (hl : L.length ≤ 4096) (hx : x.size ≤ 60) (hz : ∀ z ∈ L, z.size ≤ x.size) :
    Calls Tryz.prog 140 #[v, .string x] w fun e w' => ∃ v', e = .returned v' ∧ OwnD w' w.heap.size v' (L.filter (sdAll x)) ∧ Below w.heap.size w w' := by
  obtain ⟨i0, hi, hz0, hz1, hz2⟩ := info_parts infoD
  obtain ⟨ad, cap, rfl, look⟩ := ownD_look h
  have LK := Lib.hid look
  have HZ := Lib.hid hz
  clear look hz h
  go_enter Tryz.func140, Tryz.ntmps140
  go_wp2_with fail
  go_loopw [5, 10] (fun s5 s10 wr => ∃ k : Nat, k ≤ L.length ∧ s10 = .int .i64 (k : Int) ∧ OwnD wr w.heap.size s5 ((L.take k).filter (sdAll x)) ∧ Below w.heap.size w wr)
    (fun _ s10 _ => L.length - (intOf s10).toNat)
  case atStart => exact ⟨0, Nat.zero_le _, rfl, ownD_nil _ _, Below.refl _ _⟩
  case round =>
    obtain ⟨k, hk, rfl, hown, hB⟩ := hrel
    by_cases hp : k < L.length
    · obtain ⟨g, rfl, hg2, hg3, hg4⟩ := LK.out k hp
      have kc : wr.cell? ⟨g, k, none⟩ = some (.string (L[k]'hp)) := by rw [(bcell hB).1 g k hg2]; exact hg4
      have hkn : (k : Int) < (L.length : Int) := by omega
      have hk0 : (0 : Int) ≤ (k : Int) := by omega
      have zk := HZ.out _ (List.getElem_mem hp)
      have hc := fun W => coversAll_seed x (L[k]'hp) W hx zk
      clear hg4 zk
      have hfl : ((L.take k).filter (sdAll x)).length ≤ 4096 := by
        have h1 := List.length_filter_le (sdAll x) (L.take k)
        rw [List.length_take] at h1
        omega
      have hbz := hB.size
      cases ht : sdAll x (L[k]'hp) with
      | false =>
        have HS := Lib.hid (filtD_miss hp ht)
        rw [ht] at hc
        have HC := Lib.hid hc
        clear hc ht
        generalize L[k]'hp = z at *
        go_wp2_with (go_at_call 86; refine (HC.out _).mono ?_; rintro e w1 ⟨rfl, b1⟩)
        go_roundw
        case rel => exact ⟨k + 1, by omega, by go_num, by rw [HS.out]; exact own_below hown b1, hB.then b1⟩
        case measure => simp [intOf]; omega
      | true =>
        have HS := Lib.hid (filtD_hit hp ht)
        rw [ht] at hc
        have HC := Lib.hid hc
        clear hc ht
        generalize L[k]'hp = z at *
        generalize (L.take k).filter (sdAll x) = M at *
        go_wp2_with (first | (go_at_call 86; refine (HC.out _).mono ?_; rintro e w1 ⟨rfl, b1⟩; have hown1 : OwnD w1 w.heap.size u5 M := own_below hown b1; have b1z := b1.size) | (at_builtin; refine wpList_append_own _ rfl _ _ 90 rfl w.heap.size 93 i0 (.string ⟨#[]⟩) 1 16 Tryz.underlying90 hi hz0 hz1 hz2 rfl (by decide) _ _ _ rfl (World.ownsRow.alloc hown1 _) ⟨_, 0, none⟩ 1 1 [.string z] rfl rfl (cell_new _ _ _) (by intro u hu; simp at hu; subst hu; rfl) (by unfold maxLen; omega) (by omega) (by simp; omega) ?_; intro v' w3 hown' hgrow _))
        go_roundw
        case rel =>
          refine ⟨k + 1, by omega, by go_num, by rw [HS.out]; exact ownD_snoc hown', ?_⟩
          exact ((hB.then b1).alloc (by omega) _).grown hgrow (by simp; omega) (fun q hq => (hown1.lt q hq).1)
        case measure => simp [intOf]; omega
    · obtain rfl : k = L.length := by omega
      have hkn : ¬ (L.length : Int) < (L.length : Int) := by omega
      rw [List.take_length] at hown
      go_wp2_with fail
      go_ret
      exact ⟨_, rfl, hown, hB⟩

set_option maxRecDepth 100000 in
set_option maxHeartbeats 2000000 in
theorem texts_D (B : Nat) (v : Value) (L : List ByteArray) (w : World) (h : OwnD w B v L) (hl : L.length ≤ 4096) (hz : ∀ z ∈ L, z.size ≤ 60) :
    Calls Tryz.prog 81 #[v] w fun e w' => ∃ v', e = .returned v' ∧ OwnS w' w.heap.size v' L ∧ Below w.heap.size w w' := by
  obtain ⟨i0, hi, hz0, hz1, hz2⟩ := info_parts infoStr
  obtain ⟨ad, cap, rfl, look⟩ := ownD_look h
  have LK := Lib.hid look
  have HZ := Lib.hid hz
  clear look hz h
  go_enter Tryz.func81, Tryz.ntmps81
  go_wp2_with fail
  go_loopw [3, 8] (fun s3 s8 wr => ∃ k : Nat, k ≤ L.length ∧ s8 = .int .i64 (k : Int) ∧ OwnS wr w.heap.size s3 (L.take k) ∧ Below w.heap.size w wr)
    (fun _ s8 _ => L.length - (intOf s8).toNat)
  case atStart => exact ⟨0, Nat.zero_le _, rfl, OwnS.nil _ _, Below.refl _ _⟩
  case round =>
    obtain ⟨k, hk, rfl, hown, hB⟩ := hrel
    by_cases hp : k < L.length
    · obtain ⟨g, rfl, hg2, hg3, hg4⟩ := LK.out k hp
      have kc : wr.cell? ⟨g, k, none⟩ = some (.string (L[k]'hp)) := by rw [(bcell hB).1 g k hg2]; exact hg4
      have hkn : (k : Int) < (L.length : Int) := by omega
      have hk0 : (0 : Int) ≤ (k : Int) := by omega
      have zk := HZ.out _ (List.getElem_mem hp)
      clear hg4
      have hfl : (L.take k).length ≤ 4096 := by rw [List.length_take]; omega
      have hbz := hB.size
      have HS := Lib.hid (List.take_succ_eq_append_getElem hp)
      generalize L[k]'hp = z at *
      generalize L.take k = M at *
      go_wp2_with (first | (go_at_call 96; refine (strings_Clone _ _ (by omega)).mono ?_; rintro e w1 ⟨rfl, b1⟩; have hown1 : OwnS w1 w.heap.size u3 M := own_below hown b1; have b1z := b1.size) | (at_builtin; refine wpList_append_own _ rfl _ _ 41 rfl w.heap.size 9 i0 (.string ⟨#[]⟩) 1 16 Tryz.underlying41 hi hz0 hz1 hz2 rfl (by decide) _ _ _ rfl (World.ownsRow.alloc hown1 _) ⟨_, 0, none⟩ 1 1 [.string z] rfl rfl (cell_new _ _ _) (by intro u hu; simp at hu; subst hu; rfl) (by unfold maxLen; omega) (by omega) (by simp; omega) ?_; intro v' w3 hown' hgrow _))
      go_roundw
      case rel =>
        refine ⟨k + 1, by omega, by go_num, ?_, ?_⟩
        · rw [HS.out]
          unfold OwnS
          rw [List.length_append, List.map_append]
          exact hown'
        · exact ((hB.then b1).alloc (by omega) _).grown hgrow (by simp; omega) (fun q hq => (hown1.lt q hq).1)
      case measure => simp [intOf]; omega
    · obtain rfl : k = L.length := by omega
      have hkn : ¬ (L.length : Int) < (L.length : Int) := by omega
      rw [List.take_length] at hown
      go_wp2_with fail
      go_ret
      exact ⟨_, rfl, hown, hB⟩

end Go.Proofs.YtfipbnognjepkaaGreatDoor

/-! ### SdF -/
namespace Go.Proofs.YtfipbnognjepkaaGreatDoor
set_option linter.unusedVariables false
set_option linter.unusedSimpArgs false
open Go.RowKit

set_option maxRecDepth 100000 in
set_option maxHeartbeats 1000000 in
theorem isSeed1_any (b1 b2 : Nat) (x u : ByteArray) (w : World) (c1 : Boxed w b1 9 (.string x)) (c2 : Boxed w b2 9 (.string u)) (sx : x.size ≤ maxLen) (su : u.size ≤ maxLen) :
    Calls Tryz.prog 84 #[.pointer (some ⟨b1, 0, none⟩), .pointer (some ⟨b2, 0, none⟩)] w fun e w' => EndB (isSeedR x u) e ∧ Below w.heap.size w w' := by
  have k1 := c1.cell
  have k2 := c2.cell
  have c1' : Boxed (w.alloc (.cells #[.string x, .string u] 9)) b1 9 (.string x) := c1.alloc _
  have c2' : Boxed (w.alloc (.cells #[.string x, .string u] 9)) b2 9 (.string u) := c2.alloc _
  have l1' := c1'.lt
  have l2' := c2'.lt
  by_cases h : IsW x ∧ IsW u
  · have H := Lib.hid h
    have zx := h.1.size
    have zu := h.2.size
    by_cases h0 : u.size = 0 ∨ x.size < u.size
    · rw [isSeedR_out h h0]
      clear h
      have hq : u.toList.isEmpty = true ∨ (u.toList.isEmpty = false ∧ decide (u.size ≤ x.size) = false) := by
        by_cases hu : u.size = 0
        · exact .inl (nil_yesC hu)
        · exact .inr ⟨nil_noC hu, decide_eq_false (by have := h0.resolve_left hu; omega)⟩
      clear h0
      rcases hq with hq | ⟨hq, hq2⟩
      all_goals
        go_enter Tryz.func84, Tryz.ntmps84
        go_wp2_with (first | (go_at_call 85; refine (areWords2_yes _ x u _ (by simp) (by simp [go_sem]) (by simp [go_sem]) H.out.1 H.out.2).mono ?_; rintro e w1 ⟨rfl, a1⟩; have k3 := (boxed_past c2' a1 l2').cell; have k4 := (boxed_past c1' a1 l1').cell) | (go_at_call 55; first | (with_reducible refine (refuse_yes _ _).mono ?_; rintro e w2 ⟨rfl, rfl⟩) | (with_reducible refine (refuse_no _ _).mono ?_; rintro e w2 ⟨rfl, rfl⟩)))
        exact ⟨rfl, .inr ⟨rfl, rfl⟩, (Below.new _ _).then a1⟩
    · rw [isSeedR_ok h h0]
      have hq := nil_noC (fun e => h0 (.inl e))
      have hq2 : decide (u.size ≤ x.size) = true := decide_eq_true (by omega)
      have hle : u.size ≤ x.size := by omega
      clear h h0
      go_enter Tryz.func84, Tryz.ntmps84
      go_wp2_with (first | (go_at_call 85; refine (areWords2_yes _ x u _ (by simp) (by simp [go_sem]) (by simp [go_sem]) H.out.1 H.out.2).mono ?_; rintro e w1 ⟨rfl, a1⟩; have k3 := (boxed_past c2' a1 l2').cell; have k4 := (boxed_past c1' a1 l1').cell) | (go_at_call 55; first | (with_reducible refine (refuse_yes _ _).mono ?_; rintro e w2 ⟨rfl, rfl⟩) | (with_reducible refine (refuse_no _ _).mono ?_; rintro e w2 ⟨rfl, rfl⟩)) | (go_at_call 86; refine (coversAll_seed x u _ zx hle).mono ?_; rintro e w3 ⟨rfl, a3⟩))
      go_ret
      exact ⟨.inl ⟨rfl, rfl⟩, ((Below.new _ _).then a1).then a3⟩
  · rw [isSeedR_bad h]
    have H := Lib.hid h
    clear h
    go_enter Tryz.func84, Tryz.ntmps84
    go_wp2_with (first | (go_at_call 85; refine (areWords2_no _ x u _ (by simp) (by simp [go_sem]) (by simp [go_sem]) sx su H.out).mono ?_; rintro e w1 ⟨rfl, a1⟩) | (go_at_call 55; refine (refuse_no _ _).mono ?_; rintro e w2 ⟨rfl, rfl⟩))
    exact ⟨rfl, .inr ⟨rfl, rfl⟩, (Below.new _ _).then a1⟩

set_option maxRecDepth 100000 in
set_option maxHeartbeats 1000000 in
theorem impl_IsSeed (x u : ByteArray) (w : World) (sx : x.size ≤ maxLen) (su : u.size ≤ maxLen) :
    Calls Tryz.prog 27 #[.string x, .string u] w fun e w' => e = .returned (.tuple #[.bool (isSeedR x u).1, .int .i64 (isSeedR x u).2]) ∧ Below w.heap.size w w' := by
  have hmf : ∀ (fn : Fn) (first cap : Array Value) (w : World), (Instr.makeFunc fn first cap).run Tryz.prog w = .ok (.func fn first cap) w := fun _ _ _ _ => rfl
  have c1 : Boxed (((w.alloc (.cells #[.string x] 9)).alloc (.cells #[.string u] 9)).alloc (.cells #[.int .i64 0] 2)) w.heap.size 9 (.string x) := ((Boxed.new w _ _).alloc _).alloc _
  have c2 : Boxed (((w.alloc (.cells #[.string x] 9)).alloc (.cells #[.string u] 9)).alloc (.cells #[.int .i64 0] 2)) (w.heap.size + 1) 9 (.string u) := by
    have := Boxed.new (w.alloc (.cells #[.string x] 9)) 9 (.string u)
    rw [World.size_alloc] at this
    exact this.alloc _
  have hB : Below w.heap.size w ((w.alloc (.cells #[.string x] 9)).alloc (.cells #[.string u] 9)) := (Below.new _ _).alloc (by simp) _
  go_enter Tryz.func27, Tryz.ntmps27
  go_wp2_with (go_at_call 69; refine (door_test 84 _ _ (isSeedR x u) (enters_of Tryz.func84 (by kernel_rfl) rfl) (isSeed1_any _ _ x u _ c1 c2 sx su)).mono ?_; rintro e w1 ⟨rfl, b1⟩)
  go_ret2
  exact ⟨rfl, hB.trans (b1.mono (by simp; omega))⟩

theorem facs_mem {x z : ByteArray} {m : Nat} (h : z ∈ facs x m) : z.size ≤ x.size := by
  unfold facs at h
  obtain ⟨i, hi, rfl⟩ := (mem_facK x m z _).1 h
  rw [ByteArray.size_extract]; omega
theorem facs_size {x z : ByteArray} {m : Nat} (h : z ∈ facs x m) : z.size = m := by
  unfold facs at h
  obtain ⟨i, hi, rfl⟩ := (mem_facK x m z _).1 h
  rw [ByteArray.size_extract]; omega
theorem ownS_lkD {w : World} {B : Nat} {v : Value} {L : List ByteArray} (h : OwnS w B v L) : ∃ ad cap, v = .slice ad L.length cap ∧ ∀ j (hj : j < L.length), ∃ g, ad = some ⟨g, 0, none⟩ ∧ g < w.heap.size ∧ j < cap ∧ w.cell? ⟨g, j, none⟩ = some (.string (L[j]'hj)) := by
  rcases own_forms h with ⟨rfl, h0, _⟩ | ⟨g, cap, rfl, _, hg, hc, _, hk, _⟩
  · exact ⟨_, _, by rw [h0], fun j hj => by omega⟩
  · refine ⟨_, _, rfl, fun j hj => ⟨g, rfl, hg, by omega, ?_⟩⟩
    rw [hk j hj]
    simp [hj]

set_option maxRecDepth 100000 in
set_option maxHeartbeats 2000000 in
theorem seedsOf_any (x : ByteArray) (m : Nat) (w : World) (h : IsW x) (h1 : 1 ≤ m) (h2 : m ≤ 60) :
    Calls Tryz.prog 80 #[.string x, .int .i64 (m : Int)] w fun e w' => ∃ v, e = .returned v ∧ OwnD w' w.heap.size v (sds x m) ∧ Below w.heap.size w w' := by
  obtain ⟨i0, hi, hz0, hz1, hz2⟩ := info_parts infoD
  have hx := h.size
  have hf := fun W => impl_FactorsOf x (m : Int) W (by unfold maxLen; omega) (WalkArith.wf_i64 (by omega))
  rw [factorsR_ok h h2] at hf
  have hf2 : ∀ W, Calls Tryz.prog 105 #[.string x, .int .i64 (m : Int)] W (RetS (facs x m) 0 W) := hf
  have hl := facs_len x m
  have hz : ∀ z ∈ facs x m, z.size ≤ x.size := fun z hz => facs_mem hz
  have hsd : sds x m = (facs x m).filter (sdAll x) := rfl
  rw [hsd]
  clear hf hsd h
  generalize facs x m = L at *
  have HF := Lib.hid hf2
  have HZ := Lib.hid hz
  clear hf2 hz
  go_enter Tryz.func80, Tryz.ntmps80
  go_wp2_with (go_at_call 105; refine (HF.out _).mono ?_; rintro e w1 ⟨v1, rfl, o1, b1⟩; obtain ⟨ad, cap, rfl, look⟩ := ownS_lkD o1)
  have LK := Lib.hid look
  clear look o1
  go_loopw [5, 18] (fun s5 s18 wr => ∃ k : Nat, k ≤ L.length ∧ s18 = .int .i64 (k : Int) ∧ OwnD wr w1.heap.size s5 (L.take k) ∧ Below w1.heap.size w1 wr)
    (fun _ s18 _ => L.length - (intOf s18).toNat)
  case atStart => exact ⟨0, Nat.zero_le _, rfl, ownD_nil _ _, Below.refl _ _⟩
  case round =>
    obtain ⟨k, hk, rfl, hown, hB⟩ := hrel
    have hbz := hB.size
    by_cases hp : k < L.length
    · obtain ⟨g, rfl, hg2, hg3, hg4⟩ := LK.out k hp
      have kc : wr.cell? ⟨g, k, none⟩ = some (.string (L[k]'hp)) := by rw [(bcell hB).1 g k hg2]; exact hg4
      have hkn : (k : Int) < (L.length : Int) := by omega
      have hk0 : (0 : Int) ≤ (k : Int) := by omega
      clear hg4
      have hfl : (L.take k).length ≤ 4096 := by rw [List.length_take]; omega
      have HS := Lib.hid (List.take_succ_eq_append_getElem hp)
      generalize L[k]'hp = z at *
      generalize L.take k = M at *
      go_wp2_with (at_builtin; refine wpList_append_own _ rfl _ _ 90 rfl w1.heap.size 93 i0 (.string ⟨#[]⟩) 1 16 Tryz.underlying90 hi hz0 hz1 hz2 rfl (by decide) _ _ _ rfl (World.ownsRow.alloc hown _) ⟨_, 0, none⟩ 1 1 [.string z] rfl rfl (cell_new _ _ _) (by intro u hu; simp at hu; subst hu; rfl) (by unfold maxLen; omega) (by omega) (by simp; omega) ?_; intro v' w3 hown' hgrow _)
      go_roundw
      case rel =>
        refine ⟨k + 1, by omega, by go_num, by rw [HS.out]; exact ownD_snoc hown', ?_⟩
        exact (hB.alloc (by omega) _).grown hgrow (by simp; omega) (fun q hq => (hown.lt q hq).1)
      case measure => simp [intOf]; omega
    · obtain rfl : k = L.length := by omega
      have hkn : ¬ (L.length : Int) < (L.length : Int) := by omega
      rw [List.take_length] at hown
      have hb1z := b1.size
      go_wp2_with (go_at_call 140; refine (coveringAll_D _ _ L x _ hown (by omega) hx HZ.out).mono ?_; rintro e w4 ⟨v4, rfl, o4, b4⟩)
      go_ret
      exact ⟨_, rfl, own_base o4 (by omega), (b1.then hB).then b4⟩

theorem sds_size {x : ByteArray} {m : Nat} (h : x.size ≤ 60) : ∀ z ∈ sds x m, z.size ≤ 60 := fun z hz => Nat.le_trans (facs_mem (List.mem_filter.1 hz).1) h
set_option maxRecDepth 100000 in
set_option maxHeartbeats 1000000 in
theorem seedsOf1_any (b1 b2 : Nat) (x : ByteArray) (m : Int) (w : World) (c1 : Boxed w b1 9 (.string x)) (c2 : Boxed w b2 2 (.int .i64 m)) (sx : x.size ≤ maxLen) :
    Calls Tryz.prog 91 #[.pointer (some ⟨b1, 0, none⟩), .pointer (some ⟨b2, 0, none⟩)] w fun e w' => EndS (seedsR x m) w.heap.size e w' ∧ Below w.heap.size w w' := by
  have k1 := c1.cell
  have l1 := c1.lt
  have l2 := c2.lt
  by_cases h : IsW x
  · have H := Lib.hid h
    have hx := h.size
    by_cases h0 : m < 1 ∨ 60 < m
    · rw [seedsR_out h h0]
      clear h
      have hq' : ¬ 1 ≤ m ∨ (1 ≤ m ∧ decide (m ≤ 60) = false) := by
        by_cases hm : m < 1
        · exact .inl (by omega)
        · exact .inr ⟨by omega, decide_eq_false (by omega)⟩
      clear h0
      rcases hq' with hq' | ⟨hq', hq2'⟩
      all_goals
        go_enter Tryz.func91, Tryz.ntmps91
        go_wp2_with (first | (go_at_call 77; refine (isWord_yes x _ H.out).mono ?_; rintro e w1 ⟨rfl, a1⟩; have k3 := (boxed_past c2 a1 l2).cell; have k4 := (boxed_past c1 a1 l1).cell) | (go_at_call 55; first | (with_reducible refine (refuse_yes _ _).mono ?_; rintro e w2 ⟨rfl, rfl⟩) | (with_reducible refine (refuse_no _ _).mono ?_; rintro e w2 ⟨rfl, rfl⟩)))
        exact ⟨rfl, .inr ⟨rfl, rfl⟩, a1⟩
    · obtain ⟨n, rfl⟩ : ∃ n : Nat, m = n := ⟨m.toNat, by omega⟩
      rw [seedsR_ok h (by omega) (by omega)]
      have hq1 : (1 : Int) ≤ (n : Int) := by omega
      have hq2 : (n : Int) ≤ 60 := by omega
      have hn1 : 1 ≤ n := by omega
      have hn2 : n ≤ 60 := by omega
      have HS := Lib.hid (sds_size (m := n) hx)
      have hl := sds_len x n
      clear h h0
      go_enter Tryz.func91, Tryz.ntmps91
      go_wp2_with (first | (go_at_call 77; refine (isWord_yes x _ H.out).mono ?_; rintro e w1 ⟨rfl, a1⟩; have k3 := (boxed_past c2 a1 l2).cell; have k4 := (boxed_past c1 a1 l1).cell) | (go_at_call 55; with_reducible refine (refuse_yes _ _).mono ?_; rintro e w2 ⟨rfl, rfl⟩) | (go_at_call 80; refine (seedsOf_any x n _ H.out hn1 hn2).mono ?_; rintro e w3 ⟨v3, rfl, o3, a3⟩) | (go_at_call 81; refine (texts_D _ _ _ _ o3 (by omega) HS.out).mono ?_; rintro e w4 ⟨v4, rfl, o4, a4⟩))
      go_ret
      exact ⟨.inl ⟨_, rfl, o4.base (a1.then a3).size, rfl⟩, (a1.then a3).then a4⟩
  · rw [seedsR_bad h]
    have H := Lib.hid h
    clear h
    go_enter Tryz.func91, Tryz.ntmps91
    go_wp2_with (first | (go_at_call 77; refine (isWord_not x _ sx H.out).mono ?_; rintro e w1 ⟨rfl, a1⟩) | (go_at_call 55; refine (refuse_no _ _).mono ?_; rintro e w2 ⟨rfl, rfl⟩))
    exact ⟨rfl, .inr ⟨rfl, rfl⟩, a1⟩

set_option maxRecDepth 100000 in
theorem impl_SeedsOf (x : ByteArray) (m : Int) (w : World) (sx : x.size ≤ maxLen) (wm : (Lit.int .i64 m).wf = true) :
    Calls Tryz.prog 29 #[.string x, .int .i64 m] w (RetS (seedsR x m).1 (seedsR x m).2 w) := by
  have hmf : ∀ (fn : Fn) (first cap : Array Value) (w : World), (Instr.makeFunc fn first cap).run Tryz.prog w = .ok (.func fn first cap) w := fun _ _ _ _ => rfl
  have c1 : Boxed (((w.alloc (.cells #[.string x] 9)).alloc (.cells #[.int .i64 m] 2)).alloc (.cells #[.int .i64 0] 2)) w.heap.size 9 (.string x) := ((Boxed.new w _ _).alloc _).alloc _
  have c2 : Boxed (((w.alloc (.cells #[.string x] 9)).alloc (.cells #[.int .i64 m] 2)).alloc (.cells #[.int .i64 0] 2)) (w.heap.size + 1) 2 (.int .i64 m) := by
    have := Boxed.new (w.alloc (.cells #[.string x] 9)) 2 (.int .i64 m)
    rw [World.size_alloc] at this
    exact this.alloc _
  have hB : Below w.heap.size w ((w.alloc (.cells #[.string x] 9)).alloc (.cells #[.int .i64 m] 2)) := (Below.new _ _).alloc (by simp) _
  go_enter Tryz.func29, Tryz.ntmps29
  go_wp2_with (go_at_call 90; refine (door_list 91 _ _ (seedsR x m) (enters_of Tryz.func91 (by kernel_rfl) rfl) (seedsOf1_any _ _ x m _ c1 c2 sx)).mono ?_; rintro e w1 ⟨v, rfl, o1, b1⟩)
  go_ret2
  exact ⟨_, rfl, o1.base (by simp; omega), hB.trans (b1.mono (by simp; omega))⟩

set_option maxRecDepth 100000 in
set_option maxHeartbeats 2000000 in
theorem leastSeed1_any (b : Nat) (x : ByteArray) (w : World) (c1 : Boxed w b 9 (.string x)) (sx : x.size ≤ maxLen) :
    Calls Tryz.prog 79 #[.pointer (some ⟨b, 0, none⟩)] w fun e w' => EndT (leastSeedR x) e ∧ Below w.heap.size w w' := by
  have k1 := c1.cell
  have l1 := c1.lt
  by_cases h : IsW x
  · have H := Lib.hid h
    have hx := h.size
    have hr : x.size = 0 → leastSeedR x = (⟨#[]⟩, 4) := leastSeedR_empty h
    have hr2 : ¬ x.size = 0 → leastSeedR x = (ls x, 0) := leastSeedR_ok h
    have HR := Lib.hid hr
    have HR2 := Lib.hid hr2
    clear h hr hr2
    go_enter Tryz.func79, Tryz.ntmps79
    go_wp2_with (first | (go_at_call 77; refine (isWord_yes x _ H.out).mono ?_; rintro e w2 ⟨rfl, a1⟩; have c2 := boxed_past c1 a1 l1; have k2 := c2.cell) | (go_at_call 55; with_reducible refine (refuse_yes _ _).mono ?_; rintro e w1 ⟨rfl, rfl⟩))
    go_loopw [2] (fun s2 wr => ∃ k : Nat, k ≤ x.size ∧ s2 = .int .i64 ((k : Int) + 1) ∧ Hid (∀ i, i < k → sds x (i + 1) = []) ∧ Below w1.heap.size w1 wr)
      (fun s2 _ => x.size + 2 - (intOf s2).toNat)
    case atStart => exact ⟨0, Nat.zero_le _, rfl, Lib.hid (fun i hi => by omega), Below.refl _ _⟩
    case round =>
      obtain ⟨k, hk, rfl, hi, hB⟩ := hrel
      have c4 := boxed_past c2 hB c2.lt
      have k4 := c4.cell
      have l4 := c4.lt
      by_cases hp : k < x.size
      · obtain ⟨m, hm⟩ : ∃ m : Nat, k + 1 = m := ⟨_, rfl⟩
        have em : (k : Int) + 1 = (m : Int) := by omega
        have hml : (m : Int) ≤ (x.size : Int) := by omega
        have hm1 : 1 ≤ m := by omega
        have hm2 : m ≤ 60 := by omega
        have HS := Lib.hid (sds_size (x := x) (m := m) hx)
        have hl := sds_len x m
        by_cases hz : 0 < (sds x m).length
        · have hq : ((sds x m).length : Int) > 0 := by omega
          have e0 := HR2.out (by omega)
          have e1 : Hid (∀ h : 0 < (sds x m).length, (sds x m)[0]'h = ls x) := Lib.hid fun h => by
            have := ls_at (k := k) hp hi.out (by rw [hm]; exact h)
            simp only [hm] at this
            exact this.symm
          have SO := Lib.hid (fun W => seedsOf_any x m W H.out hm1 hm2)
          clear hi HR HR2
          have E0 := Lib.hid e0
          clear e0
          generalize sds x m = L at *
          go_wp2_with (first | (go_at_call 80; refine (SO.out _).mono ?_; rintro e w3 ⟨v3, rfl, o3, a3⟩; obtain ⟨ad3, cp3, rfl, _⟩ := ownD_look o3) | (go_at_call 81; refine (texts_D _ _ _ _ o3 (by omega) HS.out).mono ?_; rintro e w4 ⟨v4, rfl, o4, a4⟩; obtain ⟨g4, c4, rfl, z1, z2, z3, z4, z5, z6⟩ := o4.row hz; have y1 := z5 0 hz; rw [e1.out hz] at y1; clear z5))
          go_ret
          exact ⟨by rw [E0.out]; exact .inl ⟨rfl, rfl⟩, ((a1.then hB).then a3).then a4⟩
        · have hq : ¬ ((sds x m).length : Int) > 0 := by omega
          have e1 : sds x m = [] := List.eq_nil_of_length_eq_zero (by omega)
          have hi2 : Hid (∀ i, i < k + 1 → sds x (i + 1) = []) := Lib.hid fun i hi1 => by
            by_cases e : i = k
            · subst e; rw [hm]; exact e1
            · exact hi.out i (by omega)
          clear hi
          go_wp2_with (go_at_call 80; refine (seedsOf_any x m _ H.out hm1 hm2).mono ?_; rintro e w3 ⟨v3, rfl, o3, a3⟩; obtain ⟨ad3, cp3, rfl, _⟩ := ownD_look o3)
          go_roundw
          case rel => exact ⟨k + 1, by omega, by go_num, hi2, hB.then a3⟩
          case measure => simp [intOf]; omega
      · obtain rfl : k = x.size := by omega
        have hkn : ¬ ((x.size : Int) + 1) ≤ (x.size : Int) := by omega
        have h0 : x.size = 0 := by
          by_cases e : x.size = 0
          · exact e
          · have := hi.out (x.size - 1) (by omega)
            rw [show x.size - 1 + 1 = x.size by omega, sds_self (by omega)] at this
            cases this
        have E0 := Lib.hid (HR.out h0)
        clear hi HR HR2
        go_wp2_with fail
        exact ⟨rfl, by rw [E0.out]; exact .inr ⟨rfl, rfl⟩, a1.then hB⟩
  · rw [leastSeedR_bad h]
    have H := Lib.hid h
    clear h
    go_enter Tryz.func79, Tryz.ntmps79
    go_wp2_with (first | (go_at_call 77; refine (isWord_not x _ sx H.out).mono ?_; rintro e w1 ⟨rfl, a1⟩) | (go_at_call 55; refine (refuse_no _ _).mono ?_; rintro e w2 ⟨rfl, rfl⟩))
    exact ⟨rfl, .inr ⟨rfl, rfl⟩, a1⟩

set_option maxRecDepth 100000 in
theorem impl_LeastSeed (x : ByteArray) (w : World) (sx : x.size ≤ maxLen) :
    Calls Tryz.prog 25 #[.string x] w fun e w' => e = .returned (.tuple #[.string (leastSeedR x).1, .int .i64 (leastSeedR x).2]) ∧ Below w.heap.size w w' := by
  have hmf : ∀ (fn : Fn) (first cap : Array Value) (w : World), (Instr.makeFunc fn first cap).run Tryz.prog w = .ok (.func fn first cap) w := fun _ _ _ _ => rfl
  have c1 : Boxed ((w.alloc (.cells #[.string x] 9)).alloc (.cells #[.int .i64 0] 2)) w.heap.size 9 (.string x) := (Boxed.new w _ _).alloc _
  have hB : Below w.heap.size w (w.alloc (.cells #[.string x] 9)) := Below.new _ _
  go_enter Tryz.func25, Tryz.ntmps25
  go_wp2_with (go_at_call 53; refine (door_text 79 _ _ (leastSeedR x) (enters_of Tryz.func79 (by kernel_rfl) rfl) (leastSeed1_any w.heap.size x _ c1 sx)).mono ?_; rintro e w1 ⟨rfl, b1⟩)
  go_ret2
  exact ⟨rfl, hB.then b1⟩

end Go.Proofs.YtfipbnognjepkaaGreatDoor

/-! ### CovT -/
namespace Go.Proofs.YtfipbnognjepkaaGreatDoor
set_option linter.unusedVariables false
set_option linter.unusedSimpArgs false
open Go.RowKit

theorem msk_lt64 (x u : ByteArray) (h : x.size ≤ 60) : msk x u < 18446744073709551616 := by
  have h1 := msk_lt x u
  have h2 : 2 ^ x.size ≤ 2 ^ 60 := Nat.pow_le_pow_right (by omega) h
  omega
theorem two_lt (x u v : ByteArray) : msk x u ||| msk x v < 2 ^ x.size := Nat.or_lt_two_pow (msk_lt x u) (msk_lt x v)

theorem pair_past {w W w1 : World} {a b : Value} (b1 : Below W.heap.size W w1) (h : W.cell? ⟨w.heap.size, 0, none⟩ = some a ∧ W.cell? ⟨w.heap.size, 1, none⟩ = some b ∧ Below w.heap.size w W) :
    w1.cell? ⟨w.heap.size, 0, none⟩ = some a ∧ w1.cell? ⟨w.heap.size, 1, none⟩ = some b ∧ Below w.heap.size w w1 := by
  have hl : w.heap.size < W.heap.size := by
    have h1 := h.1
    by_cases e : w.heap.size < W.heap.size
    · exact e
    · dsimp only [World.cell?] at h1
      rw [Array.getElem?_eq_none (by omega)] at h1
      cases h1
  exact ⟨by rw [(bcell b1).1 _ _ hl]; exact h.1, by rw [(bcell b1).1 _ _ hl]; exact h.2.1, h.2.2.then b1⟩

set_option maxRecDepth 100000 in
set_option maxHeartbeats 4000000 in
theorem pair_covered (x u v : ByteArray) (w : World) (hx : x.size ≤ 60) (hu : u.size ≤ 60) (hv : v.size ≤ 60) :
    Calls Tryz.prog 240 #[.agg #[.iface 100 (.string u), .iface 100 (.string v)], .string x] w fun e w' => e = .returned (.int .u64 ((msk x u ||| msk x v : Nat) : Int)) ∧ Below w.heap.size w w' := by
  have hor := bits_or_u64_nat _ _ (msk_lt64 x u hx) (msk_lt64 x v hx)
  have q0 : (w.alloc (.cells #[.iface 100 (.string u), .iface 100 (.string v)] 118)).cell? ⟨w.heap.size, 0, none⟩ = some (.iface 100 (.string u)) := by simp [go_sem]
  have q1 : (w.alloc (.cells #[.iface 100 (.string u), .iface 100 (.string v)] 118)).cell? ⟨w.heap.size, 1, none⟩ = some (.iface 100 (.string v)) := by simp [go_sem]
  have B0 : Below w.heap.size w (w.alloc (.cells #[.iface 100 (.string u), .iface 100 (.string v)] 118)) := Below.new _ _
  have hc := fun y W h => callsIn_wide.1 (inner_covered_in x y W hx h)
  have HC := Lib.hid hc
  clear hc
  go_enter Tryz.func240, Tryz.ntmps240
  go_upto_region 1 with fail
  go_region_held3 (fun w' => w'.cell? ⟨w.heap.size, 0, none⟩ = some (.iface 100 (.string u)) ∧ w'.cell? ⟨w.heap.size, 1, none⟩ = some (.iface 100 (.string v)) ∧ Below w.heap.size w w') (first | assumption | exact ⟨q0, q1, B0⟩ | exact ⟨q0, q1, B0.drew⟩ | (refine ⟨?_, ?_, ?_⟩ <;> first | assumption | exact Below.drew (by assumption) | go_keep)) (first | (go_at_call 94; refine (HC.out _ _ (by assumption)).mono ?_; rintro e w1 ⟨rfl, b1⟩; have kp := pair_past b1 (by first | assumption | exact ⟨by assumption, by assumption, by assumption⟩ | exact ⟨q0, q1, B0⟩ | exact ⟨q0, q1, B0.drew⟩)))
  all_goals (try go_wp2_with fail)
  all_goals go_ret
  all_goals exact ⟨rfl, by first | assumption | exact (by assumption : _ ∧ _ ∧ _).2.2⟩

theorem two_beq (x u v : ByteArray) : (((msk x u ||| msk x v : Nat) : Int) == ((mskF 0 x.size : Nat) : Int)) = cvTwo x u v := full_beq (two_lt x u v) (msk_two x u v)
set_option maxHeartbeats 1000000 in
theorem coversAll_pair (x u v : ByteArray) (w : World) (hx : x.size ≤ 60) (hu : u.size ≤ 60) (hv : v.size ≤ 60) :
    Calls Tryz.prog 86 #[.iface 118 (.agg #[.iface 100 (.string u), .iface 100 (.string v)]), .string x] w fun e w' => e = .returned (.bool (cvTwo x u v)) ∧ Below w.heap.size w w' := by
  have hb := two_beq x u v
  go_enter Tryz.func86, Tryz.ntmps86
  go_wp2_with (first | (go_at_call 240; refine (pair_covered x u v _ hx hu hv).mono ?_; rintro e w1 ⟨rfl, b1⟩) | (go_at_call 101; refine (placesFrom_any 0 x.size _ (by omega)).mono ?_; rintro e w2 ⟨rfl, rfl⟩))
  go_ret
  exact ⟨rfl, b1⟩

theorem areWords3_yes (b : Nat) (x y z : ByteArray) (w : World) (hb : b < w.heap.size) (c0 : w.cell? ⟨b, 0, none⟩ = some (.string x)) (c1 : w.cell? ⟨b, 1, none⟩ = some (.string y)) (c2 : w.cell? ⟨b, 2, none⟩ = some (.string z)) (hx : IsW x) (hy : IsW y) (hz : IsW z) :
    Calls Tryz.prog 85 #[.slice (some ⟨b, 0, none⟩) 3 3] w fun e w' => e = .returned (.bool true) ∧ Below w.heap.size w w' :=
  areWords_yes b [x, y, z] w hb (by simp) (fun j h => by match j, h with | 0, _ => exact c0 | 1, _ => exact c1 | 2, _ => exact c2) (fun j h => by match j, h with | 0, _ => exact hx | 1, _ => exact hy | 2, _ => exact hz)
theorem areWords3_no (b : Nat) (x y z : ByteArray) (w : World) (hb : b < w.heap.size) (c0 : w.cell? ⟨b, 0, none⟩ = some (.string x)) (c1 : w.cell? ⟨b, 1, none⟩ = some (.string y)) (c2 : w.cell? ⟨b, 2, none⟩ = some (.string z)) (sx : x.size ≤ maxLen) (sy : y.size ≤ maxLen) (sz : z.size ≤ maxLen) (h : ¬ (IsW x ∧ IsW y ∧ IsW z)) :
    Calls Tryz.prog 85 #[.slice (some ⟨b, 0, none⟩) 3 3] w fun e w' => e = .returned (.bool false) ∧ Below w.heap.size w w' :=
  areWords_no b [x, y, z] w hb (by simp) (fun j h => by match j, h with | 0, _ => exact c0 | 1, _ => exact c1 | 2, _ => exact c2) (fun j h => by match j, h with | 0, _ => exact sx | 1, _ => exact sy | 2, _ => exact sz)
    (fun h1 => h ⟨h1 0 (by simp), h1 1 (by simp), h1 2 (by simp)⟩)

set_option maxRecDepth 100000 in
set_option maxHeartbeats 2000000 in
theorem coveredByTwo1_any (b1 b2 b3 : Nat) (x u v : ByteArray) (w : World) (c1 : Boxed w b1 9 (.string x)) (c2 : Boxed w b2 9 (.string u)) (c3 : Boxed w b3 9 (.string v)) (sx : x.size ≤ maxLen) (su : u.size ≤ maxLen) (sv : v.size ≤ maxLen) :
    Calls Tryz.prog 109 #[.pointer (some ⟨b1, 0, none⟩), .pointer (some ⟨b2, 0, none⟩), .pointer (some ⟨b3, 0, none⟩)] w fun e w' => EndB (coveredByTwoR x u v) e ∧ Below w.heap.size w w' := by
  have k1 := c1.cell
  have k2 := c2.cell
  have k3 := c3.cell
  have l1 := c1.lt
  have l2 := c2.lt
  have l3 := c3.lt
  have c1' : Boxed (w.alloc (.cells #[.string x, .string u, .string v] 9)) b1 9 (.string x) := c1.alloc _
  have c2' : Boxed (w.alloc (.cells #[.string x, .string u, .string v] 9)) b2 9 (.string u) := c2.alloc _
  have c3' : Boxed (w.alloc (.cells #[.string x, .string u, .string v] 9)) b3 9 (.string v) := c3.alloc _
  have l1' := c1'.lt
  have l2' := c2'.lt
  have l3' := c3'.lt
  by_cases h : IsW x ∧ IsW u ∧ IsW v
  · have H := Lib.hid h
    by_cases h0 : u.size = 0 ∨ v.size = 0
    · rw [coveredByTwoR_empty h h0]
      clear h
      have hq : u.toList.isEmpty = true ∨ (u.toList.isEmpty = false ∧ v.toList.isEmpty = true) := by
        by_cases hu : u.size = 0
        · exact .inl (nil_yesC hu)
        · exact .inr ⟨nil_noC hu, nil_yesC (h0.resolve_left hu)⟩
      clear h0
      rcases hq with hq | ⟨hq, hq2⟩
      all_goals
        go_enter Tryz.func109, Tryz.ntmps109
        go_wp2_with (first | (go_at_call 85; refine (areWords3_yes _ x u v _ (by simp) (by simp [go_sem]) (by simp [go_sem]) (by simp [go_sem]) H.out.1 H.out.2.1 H.out.2.2).mono ?_; rintro e w1 ⟨rfl, a1⟩; have k4 := (boxed_past c2' a1 l2').cell; have k5 := (boxed_past c3' a1 l3').cell) | (go_at_call 55; first | (with_reducible refine (refuse_yes _ _).mono ?_; rintro e w2 ⟨rfl, rfl⟩) | (with_reducible refine (refuse_no _ _).mono ?_; rintro e w2 ⟨rfl, rfl⟩)))
        exact ⟨rfl, .inr ⟨rfl, rfl⟩, (Below.new _ _).then a1⟩
    · rw [coveredByTwoR_ok h h0]
      have hq := nil_noC (fun e => h0 (.inl e))
      have hq2 := nil_noC (fun e => h0 (.inr e))
      have zx := h.1.size
      have zu := h.2.1.size
      have zv := h.2.2.size
      clear h h0
      go_enter Tryz.func109, Tryz.ntmps109
      go_wp2_with (first | (go_at_call 85; refine (areWords3_yes _ x u v _ (by simp) (by simp [go_sem]) (by simp [go_sem]) (by simp [go_sem]) H.out.1 H.out.2.1 H.out.2.2).mono ?_; rintro e w1 ⟨rfl, a1⟩; have k4 := (boxed_past c2' a1 l2').cell; have k5 := (boxed_past c3' a1 l3').cell; have k6 := (boxed_past c1' a1 l1').cell) | (go_at_call 55; first | (with_reducible refine (refuse_yes _ _).mono ?_; rintro e w2 ⟨rfl, rfl⟩) | (with_reducible refine (refuse_no _ _).mono ?_; rintro e w2 ⟨rfl, rfl⟩)) | (go_at_call 86; refine (coversAll_pair x u v _ zx zu zv).mono ?_; rintro e w3 ⟨rfl, a3⟩))
      go_ret
      exact ⟨.inl ⟨rfl, rfl⟩, ((Below.new _ _).then a1).then a3⟩
  · rw [coveredByTwoR_bad h]
    have H := Lib.hid h
    clear h
    go_enter Tryz.func109, Tryz.ntmps109
    go_wp2_with (first | (go_at_call 85; refine (areWords3_no _ x u v _ (by simp) (by simp [go_sem]) (by simp [go_sem]) (by simp [go_sem]) sx su sv H.out).mono ?_; rintro e w1 ⟨rfl, a1⟩) | (go_at_call 55; refine (refuse_no _ _).mono ?_; rintro e w2 ⟨rfl, rfl⟩))
    exact ⟨rfl, .inr ⟨rfl, rfl⟩, (Below.new _ _).then a1⟩

set_option maxRecDepth 100000 in
set_option maxHeartbeats 1000000 in
theorem impl_CoveredByTwo (x u v : ByteArray) (w : World) (sx : x.size ≤ maxLen) (su : u.size ≤ maxLen) (sv : v.size ≤ maxLen) :
    Calls Tryz.prog 40 #[.string x, .string u, .string v] w fun e w' => e = .returned (.tuple #[.bool (coveredByTwoR x u v).1, .int .i64 (coveredByTwoR x u v).2]) ∧ Below w.heap.size w w' := by
  have hmf : ∀ (fn : Fn) (first cap : Array Value) (w : World), (Instr.makeFunc fn first cap).run Tryz.prog w = .ok (.func fn first cap) w := fun _ _ _ _ => rfl
  have c1 : Boxed ((((w.alloc (.cells #[.string x] 9)).alloc (.cells #[.string u] 9)).alloc (.cells #[.string v] 9)).alloc (.cells #[.int .i64 0] 2)) w.heap.size 9 (.string x) := (((Boxed.new w _ _).alloc _).alloc _).alloc _
  have c2 : Boxed ((((w.alloc (.cells #[.string x] 9)).alloc (.cells #[.string u] 9)).alloc (.cells #[.string v] 9)).alloc (.cells #[.int .i64 0] 2)) (w.heap.size + 1) 9 (.string u) := by
    have := Boxed.new (w.alloc (.cells #[.string x] 9)) 9 (.string u)
    rw [World.size_alloc] at this
    exact (this.alloc _).alloc _
  have c3 : Boxed ((((w.alloc (.cells #[.string x] 9)).alloc (.cells #[.string u] 9)).alloc (.cells #[.string v] 9)).alloc (.cells #[.int .i64 0] 2)) (w.heap.size + 1 + 1) 9 (.string v) := by
    have := Boxed.new ((w.alloc (.cells #[.string x] 9)).alloc (.cells #[.string u] 9)) 9 (.string v)
    simp only [World.size_alloc] at this
    exact this.alloc _
  have hB : Below w.heap.size w (((w.alloc (.cells #[.string x] 9)).alloc (.cells #[.string u] 9)).alloc (.cells #[.string v] 9)) := ((Below.new _ _).alloc (by simp) _).alloc (by simp; omega) _
  go_enter Tryz.func40, Tryz.ntmps40
  go_wp2_with (go_at_call 69; refine (door_test 109 _ _ (coveredByTwoR x u v) (enters_of Tryz.func109 (by kernel_rfl) rfl) (coveredByTwo1_any _ _ _ x u v _ c1 c2 c3 sx su sv)).mono ?_; rintro e w1 ⟨rfl, b1⟩)
  go_ret2
  exact ⟨rfl, hB.trans (b1.mono (by simp; omega))⟩

end Go.Proofs.YtfipbnognjepkaaGreatDoor

/-! ### FtI -/
namespace Go.Proofs.YtfipbnognjepkaaGreatDoor
set_option linter.unusedVariables false
set_option linter.unusedSimpArgs false
open Go.RowKit

theorem slice_restT (g n cap k : Nat) (h : k ≤ n) (hc : n ≤ cap) : ∃ a, (k < cap → a = k) ∧ ∀ W, (Instr.slice 41 (.slice (some ⟨g, 0, none⟩) n cap) (some (.int .i64 (k : Int))) none none).run Tryz.prog W = .ok (.slice (some ⟨g, a, none⟩) (n - k) (cap - k)) W := by
  by_cases e : k < cap
  · refine ⟨k, fun _ => rfl, fun W => ?_⟩
    have hz := Tryz.sizeOf9 W
    simp [Instr.slice, run_underlying Tryz.underlying41, Instr.sliceBounds, sliced, Addr.add]
    rw [run_sliceBound W .i64 (k : Int) n _ (by omega) (by omega)]
    simp only [Result.andThen, Int.toNat_natCast]
    rw [if_neg (by omega)]
    by_cases e0 : k = 0
    · subst e0; rfl
    · rw [if_neg e0]
  · refine ⟨0, fun h => absurd h e, fun W => ?_⟩
    have hz := Tryz.sizeOf9 W
    simp [Instr.slice, run_underlying Tryz.underlying41, Instr.sliceBounds, sliced, Addr.add]
    rw [run_sliceBound W .i64 (k : Int) n _ (by omega) (by omega)]
    simp only [Result.andThen, Int.toNat_natCast]
    rw [if_pos (by omega)]

theorem ftF_end (x : ByteArray) (L : List ByteArray) : ftF x (L.drop L.length) = [] := by rw [List.drop_length]; rfl

set_option maxRecDepth 100000 in
set_option maxHeartbeats 4000000 in
theorem firstTwo1_any (b1 b2 : Nat) (x : ByteArray) (m : Int) (w : World) (c1 : Boxed w b1 9 (.string x)) (c2 : Boxed w b2 2 (.int .i64 m)) (sx : x.size ≤ maxLen) :
    Calls Tryz.prog 104 #[.pointer (some ⟨b1, 0, none⟩), .pointer (some ⟨b2, 0, none⟩)] w fun e w' => EndS (firstTwoR x m) w.heap.size e w' ∧ Below w.heap.size w w' := by
  have k1 := c1.cell
  have l1 := c1.lt
  have l2 := c2.lt
  by_cases h : IsW x
  · have H := Lib.hid h
    have hx := h.size
    by_cases h0 : m < 1 ∨ 60 < m
    · rw [firstTwoR_out h h0]
      clear h
      have hq' : ¬ 1 ≤ m ∨ (1 ≤ m ∧ decide (m ≤ 60) = false) := by
        by_cases hm : m < 1
        · exact .inl (by omega)
        · exact .inr ⟨by omega, decide_eq_false (by omega)⟩
      clear h0
      rcases hq' with hq' | ⟨hq', hq2'⟩
      all_goals
        go_enter Tryz.func104, Tryz.ntmps104
        go_wp2_with (first | (go_at_call 77; refine (isWord_yes x _ H.out).mono ?_; rintro e w1 ⟨rfl, a1⟩; have k3 := (boxed_past c2 a1 l2).cell; have k4 := (boxed_past c1 a1 l1).cell) | (go_at_call 55; first | (with_reducible refine (refuse_yes _ _).mono ?_; rintro e w2 ⟨rfl, rfl⟩) | (with_reducible refine (refuse_no _ _).mono ?_; rintro e w2 ⟨rfl, rfl⟩)))
        exact ⟨rfl, .inr ⟨rfl, rfl⟩, a1⟩
    · obtain ⟨n, rfl⟩ : ∃ n : Nat, m = n := ⟨m.toNat, by omega⟩
      have hq1 : (1 : Int) ≤ (n : Int) := by omega
      have hq2 : (n : Int) ≤ 60 := by omega
      have hn1 : 1 ≤ n := by omega
      have hn2 : n ≤ 60 := by omega
      have hf := fun W => impl_FactorsOf x (n : Int) W sx (WalkArith.wf_i64 (by omega))
      rw [factorsR_ok h hn2] at hf
      have hf2 : ∀ W, Calls Tryz.prog 105 #[.string x, .int .i64 (n : Int)] W (RetS (facs x n) 0 W) := hf
      have hl := facs_len x n
      have hz : ∀ z ∈ facs x n, z.size ≤ 60 := fun z hz => Nat.le_trans (facs_mem hz) hx
      have hr0 : ftF x (facs x n) = [] → firstTwoR x (n : Int) = ([], 4) := firstTwoR_none h hn1 hn2
      have hr1 : ∀ u v, ftF x (facs x n) = [u, v] → firstTwoR x (n : Int) = ([u, v], 0) := fun u v => firstTwoR_ok h hn1 hn2
      clear hf h h0
      generalize facs x n = L at *
      have HF := Lib.hid hf2
      have HZ := Lib.hid hz
      have HR0 := Lib.hid hr0
      have HR1 := Lib.hid hr1
      clear hf2 hz hr0 hr1
      go_enter Tryz.func104, Tryz.ntmps104
      go_wp2_with (first | (go_at_call 77; refine (isWord_yes x _ H.out).mono ?_; rintro e w2 ⟨rfl, a1⟩; have c3 := boxed_past c2 a1 l2; have k3 := c3.cell; have c4 := boxed_past c1 a1 l1; have k4 := c4.cell) | (go_at_call 55; with_reducible refine (refuse_yes _ _).mono ?_; rintro e w1 ⟨rfl, rfl⟩) | (go_at_call 105; refine (HF.out _).mono ?_; rintro e w3 ⟨v3, rfl, o3, b3⟩; obtain ⟨ad, cap, rfl, look⟩ := ownS_lkD o3; have c5 := boxed_past c4 b3 c4.lt))
      have LK := Lib.hid look
      have B3 := a1.then b3
      have hcap : 0 < L.length → L.length ≤ cap := fun h => by
        obtain ⟨g, _, _, h3, _⟩ := LK.out (L.length - 1) (by omega)
        omega
      clear look o3
      go_loopw [27] (fun s27 wr => ∃ k : Nat, k ≤ L.length ∧ s27 = .int .i64 (k : Int) ∧ Hid (ftF x L = ftF x (L.drop k)) ∧ Below w3.heap.size w3 wr)
        (fun s27 _ => L.length - (intOf s27).toNat)
      case atStart => exact ⟨0, Nat.zero_le _, rfl, Lib.hid rfl, Below.refl _ _⟩
      case round =>
        obtain ⟨k, hk, rfl, hi, hB⟩ := hrel
        by_cases hp : k < L.length
        · obtain ⟨g, rfl, hg2, hg3, hg4⟩ := LK.out k hp
          have kc : wr.cell? ⟨g, k, none⟩ = some (.string (L[k]'hp)) := by rw [(bcell hB).1 g k hg2]; exact hg4
          have hkn : (k : Int) < (L.length : Int) := by omega
          have hk0 : (0 : Int) ≤ (k : Int) := by omega
          obtain ⟨q, hq⟩ : ∃ q : Nat, k + 1 = q := ⟨_, rfl⟩
          have eq1 : (k : Int) + 1 = (q : Int) := by omega
          obtain ⟨a, ha, hsl⟩ := slice_restT g L.length cap q (by omega) (hcap (by omega))
          have zu := HZ.out _ (List.getElem_mem hp)
          clear hg4
          obtain ⟨N, hN⟩ : ∃ N : Nat, L.length - q = N := ⟨_, rfl⟩
          rw [hN] at hsl
          obtain ⟨u, hu⟩ : ∃ u, L[k]'hp = u := ⟨_, rfl⟩
          rw [hu] at kc zu
          have HUK := Lib.hid hu
          clear hu
          have c6 := boxed_past c5 hB c5.lt
          have k6 := c6.cell
          go_wp2_with fail
          go_loopw [37] (fun s37 wr2 => ∃ j : Nat, j ≤ N ∧ s37 = .int .i64 (j : Int) ∧ Hid (∀ i (hi : i < L.length), k < i → i < q + j → cvTwo x u (L[i]'hi) = false) ∧ Below w3.heap.size w3 wr2)
            (fun s37 _ => N - (intOf s37).toNat)
          case atStart => exact ⟨0, Nat.zero_le _, rfl, Lib.hid (fun i _ h1 h2 => by omega), hB⟩
          case round =>
            clear kc k6 hB
            obtain ⟨j, hj, rfl, hi2, hB⟩ := hrel
            have k6 := (boxed_past c5 hB c5.lt).cell
            by_cases hjn : j < N
            · have hql : q + j < L.length := by omega
              have hcp := hcap (by omega)
              obtain rfl := ha (by omega)
              obtain ⟨g2, hg1, hg2', hg3', hg4⟩ := LK.out (a + j) hql
              cases hg1
              have kc : wr.cell? ⟨g, a + j, none⟩ = some (.string (L[a + j]'hql)) := by rw [(bcell hB).1 g (a + j) hg2]; exact hg4
              have zv := HZ.out _ (List.getElem_mem hql)
              have hjN : (j : Int) < (N : Int) := by omega
              have hj0 : (0 : Int) ≤ (j : Int) := by omega
              clear hg4
              obtain ⟨v, hv⟩ : ∃ v, L[a + j]'hql = v := ⟨_, rfl⟩
              rw [hv] at kc zv
              have hc := fun W => coversAll_pair x u v W hx zu zv
              cases ht : cvTwo x u v with
              | true =>
                have e0 : ftF x L = [u, v] := by
                  rw [hi.out, ftF_hit (i := k) (k := a + j) (by omega) hql (fun i hi3 h1 h2 => by rw [HUK.out]; exact hi2.out i hi3 h1 h2) (by rw [HUK.out, hv]; exact ht), HUK.out, hv]
                have E0 := Lib.hid (HR1.out _ _ e0)
                rw [ht] at hc
                have HC := Lib.hid hc
                clear hc ht e0 hi hi2 hv
                go_wp2_with (go_at_call 86; refine (HC.out _).mono ?_; rintro e w5 ⟨rfl, b5⟩)
                go_ret
                refine ⟨?_, ((B3.then hB).then b5).alloc (((B3.then hB).then b5).size) _⟩
                rw [E0.out]
                refine .inl ⟨_, rfl, ?_, rfl⟩
                exact own_base (World.ownsRow_lit w5 #[.string u, .string v] 2 (Nat.le_refl _) (by decide) (by simp)) (((B3.then hB).then b5).size)
              | false =>
                have hi3 : Hid (∀ i (hi : i < L.length), k < i → i < a + (j + 1) → cvTwo x u (L[i]'hi) = false) := Lib.hid fun i hi4 h1 h2 => by
                  by_cases e : i = a + j
                  · subst e; rw [hv]; exact ht
                  · exact hi2.out i hi4 h1 (by omega)
                rw [ht] at hc
                have HC := Lib.hid hc
                clear hc ht hi2 hv
                go_wp2_with (go_at_call 86; refine (HC.out _).mono ?_; rintro e w5 ⟨rfl, b5⟩)
                go_roundw
                case rel => exact ⟨j + 1, by omega, by go_num, hi3, hB.then b5⟩
                case measure => simp [intOf]; omega
            · obtain rfl : j = N := by omega
              have hjN : ¬ (j : Int) < (j : Int) := by omega
              have hi4 : Hid (ftF x L = ftF x (L.drop (k + 1))) := Lib.hid (by
                rw [hi.out]
                exact ftF_skip hp (fun i hi3 h1 => by rw [HUK.out]; exact hi2.out i hi3 h1 (by omega)))
              clear hi hi2 hsl
              go_wp2_with fail
              go_roundw
              case rel => exact ⟨k + 1, by omega, by go_num, hi4, hB⟩
              case measure => simp [intOf]; omega
        · obtain rfl : k = L.length := by omega
          have hkn : ¬ (L.length : Int) < (L.length : Int) := by omega
          have e0 : ftF x L = [] := by rw [hi.out]; exact ftF_end x L
          have E0 := Lib.hid (HR0.out e0)
          clear e0 hi
          go_wp2_with fail
          exact ⟨rfl, by rw [E0.out]; exact .inr ⟨rfl, rfl⟩, B3.then hB⟩
  · rw [firstTwoR_bad h]
    have H := Lib.hid h
    clear h
    go_enter Tryz.func104, Tryz.ntmps104
    go_wp2_with (first | (go_at_call 77; refine (isWord_not x _ sx H.out).mono ?_; rintro e w1 ⟨rfl, a1⟩) | (go_at_call 55; refine (refuse_no _ _).mono ?_; rintro e w2 ⟨rfl, rfl⟩))
    exact ⟨rfl, .inr ⟨rfl, rfl⟩, a1⟩

set_option maxRecDepth 100000 in
theorem impl_FirstTwo (x : ByteArray) (m : Int) (w : World) (sx : x.size ≤ maxLen) (wm : (Lit.int .i64 m).wf = true) :
    Calls Tryz.prog 37 #[.string x, .int .i64 m] w (RetS (firstTwoR x m).1 (firstTwoR x m).2 w) := by
  have hmf : ∀ (fn : Fn) (first cap : Array Value) (w : World), (Instr.makeFunc fn first cap).run Tryz.prog w = .ok (.func fn first cap) w := fun _ _ _ _ => rfl
  have c1 : Boxed (((w.alloc (.cells #[.string x] 9)).alloc (.cells #[.int .i64 m] 2)).alloc (.cells #[.int .i64 0] 2)) w.heap.size 9 (.string x) := ((Boxed.new w _ _).alloc _).alloc _
  have c2 : Boxed (((w.alloc (.cells #[.string x] 9)).alloc (.cells #[.int .i64 m] 2)).alloc (.cells #[.int .i64 0] 2)) (w.heap.size + 1) 2 (.int .i64 m) := by
    have := Boxed.new (w.alloc (.cells #[.string x] 9)) 2 (.int .i64 m)
    rw [World.size_alloc] at this
    exact this.alloc _
  have hB : Below w.heap.size w ((w.alloc (.cells #[.string x] 9)).alloc (.cells #[.int .i64 m] 2)) := (Below.new _ _).alloc (by simp) _
  go_enter Tryz.func37, Tryz.ntmps37
  go_wp2_with (go_at_call 90; refine (door_list 104 _ _ (firstTwoR x m) (enters_of Tryz.func104 (by kernel_rfl) rfl) (firstTwo1_any _ _ x m _ c1 c2 sx)).mono ?_; rintro e w1 ⟨v, rfl, o1, b1⟩)
  go_ret2
  exact ⟨_, rfl, o1.base (by simp; omega), hB.trans (b1.mono (by simp; omega))⟩

end Go.Proofs.YtfipbnognjepkaaGreatDoor

/-! ### DoorC -/
namespace Go.Proofs.YtfipbnognjepkaaGreatDoor
set_option linter.unusedVariables false
set_option linter.unusedSimpArgs false
open Go.RowKit


set_option maxRecDepth 100000 in
set_option maxHeartbeats 2000000 in
theorem catch_C_hit (p : Addr) (x c : Int) (older : List PanicEntry) (w : World) (hc : w.cell? p = some (.int .i64 x)) (hz : w.frozen? p = false) :
    CallsD Tryz.prog 143 #[.pointer (some p)] (.panicking (refused c :: older)) w fun e u' w' =>
      e = .returned (.tuple #[]) ∧ u' = .panicking ({ refused c with recovered := true } :: older) ∧ w' = w.setCell p (.int .i64 c) := by
  have has := assert_refusal
  refine callsD_of_wpS Tryz.func143 rfl fun c₀ cs hu => ?_
  simp only [Tryz.ntmps143, List.size_toArray, List.length_cons, List.length_nil, Nat.reduceAdd, Nat.reduceSub, Array.replicate_succ, Array.replicate_zero, List.push_toArray, List.append_toArray, List.nil_append, List.cons_append]
  apply wpS_seq
  apply wpS_region
  simp [wpOpsS, go_sem, recoverD, hu, Tryz.ntmps143, Exit.thenS]
  refine wpS_of_wp ?_
  go_wp2
  cases c₀
  simp_all [bodyPostS, results, Tryz.results143]

theorem catch_C_idle (p : Addr) (w : World) :
    CallsD Tryz.prog 143 #[.pointer (some p)] .returning w fun e u' w' => e = .returned (.tuple #[]) ∧ u' = .returning ∧ w' = w := by
  refine callsD_of_wpS Tryz.func143 rfl fun c₀ cs hu => ?_
  simp only [Tryz.ntmps143, List.size_toArray, List.length_cons, List.length_nil, Nat.reduceAdd, Nat.reduceSub, Array.replicate_succ, Array.replicate_zero, List.push_toArray, List.append_toArray, List.nil_append, List.cons_append]
  apply wpS_seq
  apply wpS_region
  simp [wpOpsS, go_sem, recoverD, hu, Tryz.ntmps143, Exit.thenS]
  refine wpS_of_wp ?_
  go_wp2
  cases c₀
  simp_all [bodyPostS, results, Tryz.results143]

/-- How the work ends: a word and a number, or a refusal. -/
def EndC (r : ByteArray × Int × Int) (e : Ending) : Prop := (e = .returned (.agg #[.string r.1, .int .i64 r.2.1]) ∧ r.2.2 = 0) ∨ (e = .panicked [refused r.2.2] ∧ r.1 = ⟨#[]⟩ ∧ r.2.1 = 0)
abbrev doorW (w : World) : World := (w.alloc (.cells #[.string ⟨#[]⟩, .int .i64 0] 103)).alloc (.cells #[.int .i64 0] 2)
theorem door_cellC {w w' : World} (h : Below (doorW w).heap.size (doorW w) w') :
    (w'.cell? ⟨w.heap.size, 0, none⟩ = some (.string ⟨#[]⟩) ∧ w'.cell? ⟨w.heap.size, 1, none⟩ = some (.int .i64 0) ∧ w'.cell? ⟨w.heap.size + 1, 0, none⟩ = some (.int .i64 0)) ∧
    w'.frozen? ⟨w.heap.size, 0, none⟩ = false ∧ w'.frozen? ⟨w.heap.size, 1, none⟩ = false ∧ w'.frozen? ⟨w.heap.size + 1, 0, none⟩ = false := by
  have hs : (doorW w).heap.size = w.heap.size + 2 := by simp [doorW]
  refine ⟨⟨?_, ?_, ?_⟩, ?_, ?_, ?_⟩
  · rw [(bcell h).1 _ _ (by omega)]; simp [doorW, go_sem]
  · rw [(bcell h).1 _ _ (by omega)]; simp [doorW, go_sem]
  · rw [(bcell h).1 _ _ (by omega)]; simp [doorW, go_sem]
  · rw [(bcell h).2 _ _ (by omega)]; simp [doorW, go_sem]
  · rw [(bcell h).2 _ _ (by omega)]; simp [doorW, go_sem]
  · rw [(bcell h).2 _ _ (by omega)]; simp [doorW, go_sem]

set_option maxRecDepth 100000 in
set_option maxHeartbeats 2000000 in
theorem door_count (K : Nat) (caps : Array Value) (w : World) (r : ByteArray × Int × Int) (hent : ∀ args W, (callFunc K args).run Tryz.prog W = .ok (.enter K args) W)
    (hw : Calls Tryz.prog K caps (doorW w) fun e w' => EndC r e ∧ Below (doorW w).heap.size (doorW w) w') :
    Calls Tryz.prog 92 #[.func (.func K) #[] caps] w fun e w' => e = .returned (.tuple #[.agg #[.string r.1, .int .i64 r.2.1], .int .i64 r.2.2]) ∧ Below w.heap.size w w' := by
  obtain ⟨s, n, c⟩ := r
  have hmf : ∀ (fn : Fn) (first cap : Array Value) (w : World), (Instr.makeFunc fn first cap).run Tryz.prog w = .ok (.func fn first cap) w := fun _ _ _ _ => rfl
  have hB0 : Below w.heap.size w (doorW w) := (Below.new _ _).alloc (by simp) _
  have hs : w.heap.size ≤ (doorW w).heap.size := hB0.size
  go_enter_defers Tryz.func92, Tryz.ntmps92
  go_wp2_with (go_at_fn K; refine hw.mono ?_; rintro e w' ⟨(⟨rfl, hz⟩ | ⟨rfl, hz⟩), hB⟩ <;> (obtain ⟨⟨hc0, hc1, hc2⟩, hz0, hz1, hz2⟩ := door_cellC hB))
  · refine leaves_cons (f := 143) (args := #[.pointer (some ⟨w.heap.size + 1, 0, none⟩)]) (by simp) (by simp [go_sem]) ?_
    refine (catch_C_idle ⟨w.heap.size + 1, 0, none⟩ _).mono ?_
    rintro e u' w'' ⟨rfl, rfl, rfl⟩
    simp [Leaves, settle, results, Tryz.results92, go_sem, hc0, hc1, hc2, hz0, hz1, hz2]
    exact ⟨hz.symm, (((hB0.trans (hB.mono hs)).setCell (p := ⟨w.heap.size, 0, none⟩) (Nat.le_refl _) _).setCell (p := ⟨w.heap.size, 1, none⟩) (Nat.le_refl _) _).setCell (p := ⟨w.heap.size + 1, 0, none⟩) (Nat.le_succ _) _⟩
  · refine leaves_cons (f := 143) (args := #[.pointer (some ⟨w.heap.size + 1, 0, none⟩)]) (by simp) (by simp [go_sem]) ?_
    refine (catch_C_hit ⟨w.heap.size + 1, 0, none⟩ 0 c [] _ hc2 hz2).mono ?_
    rintro e u' w'' ⟨rfl, rfl, rfl⟩
    simp [Leaves, settle, results, Tryz.results92, go_sem, hc0, hc1, hc2, hz0, hz1, hz2]
    exact ⟨⟨hz.1.symm, hz.2.symm⟩, (hB0.trans (hB.mono hs)).setCell (p := ⟨w.heap.size + 1, 0, none⟩) (Nat.le_succ _) _⟩

end Go.Proofs.YtfipbnognjepkaaGreatDoor

/-! ### PopPlain -/
namespace Go.Proofs.YtfipbnognjepkaaGreatDoor
set_option linter.unusedVariables false
set_option linter.unusedSimpArgs false

theorem and_parts {l p h q : Nat} (hl : l < 256) (hp : p < 256) : (l + 256 * h) &&& (p + 256 * q) = (l &&& p) + 256 * (h &&& q) := by
  have a1 : l + 256 * h = 2 ^ 8 * h + l := by omega
  have a2 : p + 256 * q = 2 ^ 8 * q + p := by omega
  have hlt : l &&& p < 2 ^ 8 := Nat.and_lt_two_pow _ (by omega)
  have a3 : (l &&& p) + 256 * (h &&& q) = 2 ^ 8 * (h &&& q) + (l &&& p) := by omega
  apply Nat.eq_of_testBit_eq
  intro j
  rw [a3, Nat.testBit_and, a1, a2]
  by_cases hj : j < 8
  · rw [Nat.testBit_two_pow_mul_add _ (by omega), Nat.testBit_two_pow_mul_add _ (by omega), Nat.testBit_two_pow_mul_add _ hlt]
    simp [hj, Nat.testBit_and]
  · rw [Nat.testBit_two_pow_mul_add _ (by omega), Nat.testBit_two_pow_mul_add _ (by omega), Nat.testBit_two_pow_mul_add _ hlt]
    simp [hj, Nat.testBit_and]

/-- A mask of n bytes b. -/
def mB (b : Nat) : Nat → Nat
  | 0 => 0
  | n + 1 => b + 256 * mB b n
def pA (n x : Nat) : Nat := (x / 2 &&& mB 0x55 n) + (x &&& mB 0x55 n)
def pB (n x : Nat) : Nat := (x / 4 &&& mB 0x33 n) + (x &&& mB 0x33 n)
def pC (n x : Nat) : Nat := (x / 16 + x) &&& mB 0x0F n
theorem byteA : ∀ (t : Fin 2) (l : Fin 256), (l.val / 2 + 128 * t.val) &&& 0x55 = l.val / 2 &&& 0x55 := by decide +kernel
theorem byteB : ∀ (t : Fin 4) (l : Fin 256), (l.val / 4 + 64 * t.val) &&& 0x33 = l.val / 4 &&& 0x33 := by decide +kernel
theorem byteC : ∀ (t : Fin 5) (l : Fin 256), (l.val / 16 + 16 * t.val + l.val) % 256 &&& 0x0F = (l.val / 16 + l.val) % 256 &&& 0x0F := by decide +kernel
theorem pA_step (n l h : Nat) (hl : l < 256) : pA (n + 1) (l + 256 * h) = pA 1 l + 256 * pA n h := by
  unfold pA
  have e : (l + 256 * h) / 2 = (l / 2 + 128 * (h % 2)) + 256 * (h / 2) := by omega
  have e1 : l / 2 = l / 2 + 256 * 0 := by omega
  have e2 : l = l + 256 * 0 := by omega
  rw [e]
  show ((l / 2 + 128 * (h % 2) + 256 * (h / 2)) &&& (0x55 + 256 * mB 0x55 n)) + ((l + 256 * h) &&& (0x55 + 256 * mB 0x55 n)) = ((l / 2 &&& 0x55) + (l &&& 0x55)) + 256 * _
  rw [and_parts (by omega) (by omega), and_parts hl (by omega), byteA ⟨h % 2, by omega⟩ ⟨l, hl⟩]
  simp only
  omega
theorem pB_step (n l h : Nat) (hl : l < 256) : pB (n + 1) (l + 256 * h) = pB 1 l + 256 * pB n h := by
  unfold pB
  have e : (l + 256 * h) / 4 = (l / 4 + 64 * (h % 4)) + 256 * (h / 4) := by omega
  rw [e]
  show ((l / 4 + 64 * (h % 4) + 256 * (h / 4)) &&& (0x33 + 256 * mB 0x33 n)) + ((l + 256 * h) &&& (0x33 + 256 * mB 0x33 n)) = ((l / 4 &&& 0x33) + (l &&& 0x33)) + 256 * _
  rw [and_parts (by omega) (by omega), and_parts hl (by omega), byteB ⟨h % 4, by omega⟩ ⟨l, hl⟩]
  simp only
  omega
theorem pC_step (n l h : Nat) (hl : l ≤ 0x44) (ht : h % 16 ≤ 4) : pC (n + 1) (l + 256 * h) = pC 1 l + 256 * pC n h := by
  unfold pC
  have e : (l + 256 * h) / 16 + (l + 256 * h) = (l / 16 + 16 * (h % 16) + l) + 256 * (h / 16 + h) := by omega
  rw [e]
  show ((l / 16 + 16 * (h % 16) + l) + 256 * (h / 16 + h)) &&& (0x0F + 256 * mB 0x0F n) = ((l / 16 + l) &&& 0x0F) + 256 * _
  rw [and_parts (by omega) (by omega)]
  have h1 := byteC ⟨h % 16, by omega⟩ ⟨l, by omega⟩
  simp only at h1
  rw [Nat.mod_eq_of_lt (show l / 16 + 16 * (h % 16) + l < 256 by omega), Nat.mod_eq_of_lt (show l / 16 + l < 256 by omega)] at h1
  rw [h1]
theorem byte_ok : ∀ l : Fin 256, pA 1 l.val < 256 ∧ pB 1 (pA 1 l.val) ≤ 0x44 ∧ pB 1 (pA 1 l.val) % 16 ≤ 4 ∧ pC 1 (pB 1 (pA 1 l.val)) ≤ 8 := by decide +kernel
theorem byte_cn : ∀ l : Fin 256, pC 1 (pB 1 (pA 1 l.val)) = cnB (fun j => l.val.testBit j) 8 := by decide +kernel
theorem pAll_step (n l h : Nat) (hl : l < 256) (ht : pB n (pA n h) % 16 ≤ 4) : pC (n + 1) (pB (n + 1) (pA (n + 1) (l + 256 * h))) = pC 1 (pB 1 (pA 1 l)) + 256 * pC n (pB n (pA n h)) ∧ pB (n + 1) (pA (n + 1) (l + 256 * h)) % 16 ≤ 4 := by
  obtain ⟨k1, k2, k3, k4⟩ := byte_ok ⟨l, hl⟩
  simp only at k1 k2 k3 k4
  rw [pA_step n l h hl, pB_step n _ _ k1, pC_step n _ _ k2 ht]
  exact ⟨rfl, by omega⟩
/-- The bytes of a number, the first n, each by its bits. -/
def byC (x : Nat) : Nat → Nat
  | 0 => 0
  | n + 1 => cnB (fun j => (x % 256).testBit j) 8 + 256 * byC (x / 256) n
theorem pAll (n : Nat) : ∀ x, x < 256 ^ n → pC n (pB n (pA n x)) = byC x n ∧ pB n (pA n x) % 16 ≤ 4 := by
  induction n with
  | zero => intro x hx; simp at hx; subst hx; decide
  | succ n ih =>
    intro x hx
    have h1 : x / 256 < 256 ^ n := by rw [Nat.pow_succ] at hx; exact Nat.div_lt_of_lt_mul (by omega)
    obtain ⟨a, b⟩ := ih _ h1
    have e : x = x % 256 + 256 * (x / 256) := by omega
    have h2 := pAll_step n (x % 256) (x / 256) (Nat.mod_lt _ (by omega)) b
    rw [← e] at h2
    refine ⟨?_, h2.2⟩
    rw [h2.1, a, byC, byte_cn ⟨x % 256, Nat.mod_lt _ (by omega)⟩]
theorem cnB_add (f : Nat → Bool) (m : Nat) : ∀ n, cnB f (m + n) = cnB f m + cnB (fun j => f (m + j)) n
  | 0 => rfl
  | n + 1 => by rw [← Nat.add_assoc, cnB, cnB_add f m n, cnB]; omega
theorem cnB_ext {f g : Nat → Bool} : ∀ n, (∀ j, j < n → f j = g j) → cnB f n = cnB g n
  | 0, _ => rfl
  | n + 1, h => by rw [cnB, cnB, cnB_ext n (fun j hj => h j (by omega)), h n (by omega)]
theorem cn_byte (x n : Nat) : cnB (fun j => x.testBit j) (8 + n) = cnB (fun j => (x % 256).testBit j) 8 + cnB (fun j => (x / 256).testBit j) n := by
  rw [cnB_add]
  congr 1
  · apply cnB_ext
    intro j hj
    rw [show (256 : Nat) = 2 ^ 8 from rfl, Nat.testBit_mod_two_pow]; simp [hj]
  · apply cnB_ext
    intro j hj
    rw [show (256 : Nat) = 2 ^ 8 from rfl, Nat.testBit_div_two_pow]
    congr 1; omega
/-- The sum of all eight bytes. -/
theorem pop_sum (x : Nat) : cnB (fun j => x.testBit j) 64 = cnB (fun j => (x % 256).testBit j) 8 + (cnB (fun j => (x / 256 % 256).testBit j) 8 + (cnB (fun j => (x / 256 / 256 % 256).testBit j) 8 + (cnB (fun j => (x / 256 / 256 / 256 % 256).testBit j) 8
    + (cnB (fun j => (x / 256 / 256 / 256 / 256 % 256).testBit j) 8 + (cnB (fun j => (x / 256 / 256 / 256 / 256 / 256 % 256).testBit j) 8 + (cnB (fun j => (x / 256 / 256 / 256 / 256 / 256 / 256 % 256).testBit j) 8 + cnB (fun j => (x / 256 / 256 / 256 / 256 / 256 / 256 / 256 % 256).testBit j) 8)))))) := by
  have h := cn_byte
  rw [show (64 : Nat) = 8 + 56 from rfl, h, show (56 : Nat) = 8 + 48 from rfl, h, show (48 : Nat) = 8 + 40 from rfl, h, show (40 : Nat) = 8 + 32 from rfl, h, show (32 : Nat) = 8 + 24 from rfl, h, show (24 : Nat) = 8 + 16 from rfl, h, show (16 : Nat) = 8 + 8 from rfl, h]
  have h8 := h (x / 256 / 256 / 256 / 256 / 256 / 256 / 256) 0
  rw [Nat.add_zero] at h8
  rw [h8]
  simp [cnB]
def pD (c : Nat) : Nat := c + c / 256
def pE (c : Nat) : Nat := c + c / 65536
def pF (c : Nat) : Nat := c + c / 4294967296
theorem pD_at {a0 a1 a2 a3 a4 a5 a6 a7 : Nat} (h0 : a0 ≤ 8) (h1 : a1 ≤ 8) (h2 : a2 ≤ 8) (h3 : a3 ≤ 8) (h4 : a4 ≤ 8) (h5 : a5 ≤ 8) (h6 : a6 ≤ 8) (h7 : a7 ≤ 8) : pD (a0 + 256 * (a1 + 256 * (a2 + 256 * (a3 + 256 * (a4 + 256 * (a5 + 256 * (a6 + 256 * (a7)))))))) = (a0 + a1) + 256 * ((a1 + a2) + 256 * ((a2 + a3) + 256 * ((a3 + a4) + 256 * ((a4 + a5) + 256 * ((a5 + a6) + 256 * ((a6 + a7) + 256 * (a7))))))) := by
  unfold pD
  have e : (a0 + 256 * (a1 + 256 * (a2 + 256 * (a3 + 256 * (a4 + 256 * (a5 + 256 * (a6 + 256 * (a7)))))))) / 256 = a1 + 256 * (a2 + 256 * (a3 + 256 * (a4 + 256 * (a5 + 256 * (a6 + 256 * (a7)))))) := by
    apply Nat.div_eq_of_lt_le <;> omega
  rw [e]
  omega
theorem pE_at {a0 a1 a2 a3 a4 a5 a6 a7 : Nat} (h0 : a0 ≤ 16) (h1 : a1 ≤ 16) (h2 : a2 ≤ 16) (h3 : a3 ≤ 16) (h4 : a4 ≤ 16) (h5 : a5 ≤ 16) (h6 : a6 ≤ 16) (h7 : a7 ≤ 16) : pE (a0 + 256 * (a1 + 256 * (a2 + 256 * (a3 + 256 * (a4 + 256 * (a5 + 256 * (a6 + 256 * (a7)))))))) = (a0 + a2) + 256 * ((a1 + a3) + 256 * ((a2 + a4) + 256 * ((a3 + a5) + 256 * ((a4 + a6) + 256 * ((a5 + a7) + 256 * (a6 + 256 * (a7))))))) := by
  unfold pE
  have e : (a0 + 256 * (a1 + 256 * (a2 + 256 * (a3 + 256 * (a4 + 256 * (a5 + 256 * (a6 + 256 * (a7)))))))) / 65536 = a2 + 256 * (a3 + 256 * (a4 + 256 * (a5 + 256 * (a6 + 256 * (a7))))) := by
    apply Nat.div_eq_of_lt_le <;> omega
  rw [e]
  omega
theorem pF_at {a0 a1 a2 a3 a4 a5 a6 a7 : Nat} (h0 : a0 ≤ 32) (h1 : a1 ≤ 32) (h2 : a2 ≤ 32) (h3 : a3 ≤ 32) (h4 : a4 ≤ 32) (h5 : a5 ≤ 32) (h6 : a6 ≤ 32) (h7 : a7 ≤ 32) : pF (a0 + 256 * (a1 + 256 * (a2 + 256 * (a3 + 256 * (a4 + 256 * (a5 + 256 * (a6 + 256 * (a7)))))))) = (a0 + a4) + 256 * ((a1 + a5) + 256 * ((a2 + a6) + 256 * ((a3 + a7) + 256 * (a4 + 256 * (a5 + 256 * (a6 + 256 * (a7))))))) := by
  unfold pF
  have e : (a0 + 256 * (a1 + 256 * (a2 + 256 * (a3 + 256 * (a4 + 256 * (a5 + 256 * (a6 + 256 * (a7)))))))) / 4294967296 = a4 + 256 * (a5 + 256 * (a6 + 256 * (a7))) := by
    apply Nat.div_eq_of_lt_le <;> omega
  rw [e]
  omega
theorem pop_all (x : Nat) (hx : x < 18446744073709551616) : pF (pE (pD (pC 8 (pB 8 (pA 8 x))))) % 128 = cnB (fun j => x.testBit j) 64 ∧ pF (pE (pD (pC 8 (pB 8 (pA 8 x))))) < 9223372036854775808 := by
  rw [(pAll 8 x (by omega)).1, pop_sum]
  have l := fun y => cnB_le (fun j => (y % 256).testBit j) 8
  have l0 := l x
  have l1 := l (x / 256)
  have l2 := l (x / 256 / 256)
  have l3 := l (x / 256 / 256 / 256)
  have l4 := l (x / 256 / 256 / 256 / 256)
  have l5 := l (x / 256 / 256 / 256 / 256 / 256)
  have l6 := l (x / 256 / 256 / 256 / 256 / 256 / 256)
  have l7 := l (x / 256 / 256 / 256 / 256 / 256 / 256 / 256)
  simp only [byC]
  generalize cnB (fun j => (x % 256).testBit j) 8 = c0 at *
  generalize cnB (fun j => (x / 256 % 256).testBit j) 8 = c1 at *
  generalize cnB (fun j => (x / 256 / 256 % 256).testBit j) 8 = c2 at *
  generalize cnB (fun j => (x / 256 / 256 / 256 % 256).testBit j) 8 = c3 at *
  generalize cnB (fun j => (x / 256 / 256 / 256 / 256 % 256).testBit j) 8 = c4 at *
  generalize cnB (fun j => (x / 256 / 256 / 256 / 256 / 256 % 256).testBit j) 8 = c5 at *
  generalize cnB (fun j => (x / 256 / 256 / 256 / 256 / 256 / 256 % 256).testBit j) 8 = c6 at *
  generalize cnB (fun j => (x / 256 / 256 / 256 / 256 / 256 / 256 / 256 % 256).testBit j) 8 = c7 at *
  clear l
  rw [show c0 + 256 * (c1 + 256 * (c2 + 256 * (c3 + 256 * (c4 + 256 * (c5 + 256 * (c6 + 256 * (c7 + 256 * 0))))))) = c0 + 256 * (c1 + 256 * (c2 + 256 * (c3 + 256 * (c4 + 256 * (c5 + 256 * (c6 + 256 * c7)))))) by omega]
  rw [pD_at l0 l1 l2 l3 l4 l5 l6 l7, pE_at (by omega) (by omega) (by omega) (by omega) (by omega) (by omega) (by omega) (by omega), pF_at (by omega) (by omega) (by omega) (by omega) (by omega) (by omega) (by omega) (by omega)]
  generalize hS : c0 + c1 + (c2 + c3) + (c4 + c5 + (c6 + c7)) = S
  constructor <;> omega

end Go.Proofs.YtfipbnognjepkaaGreatDoor

/-! ### Pop -/
namespace Go.Proofs.YtfipbnognjepkaaGreatDoor
set_option linter.unusedVariables false
set_option linter.unusedSimpArgs false
open Go.RowKit

theorem mB_A : mB 0x55 8 = 6148914691236517205 := by decide
theorem mB_B : mB 0x33 8 = 3689348814741910323 := by decide
theorem mB_C : mB 0x0F 8 = 1085102592571150095 := by decide
theorem pA_le (x : Nat) : pA 8 x ≤ 12297829382473034410 := by
  have h1 : x / 2 &&& mB 0x55 8 ≤ mB 0x55 8 := Nat.and_le_right
  have h2 : x &&& mB 0x55 8 ≤ mB 0x55 8 := Nat.and_le_right
  unfold pA
  rw [mB_A] at *
  omega
theorem pB_le (x : Nat) : pB 8 x ≤ 7378697629483820646 := by
  have h1 : x / 4 &&& mB 0x33 8 ≤ mB 0x33 8 := Nat.and_le_right
  have h2 : x &&& mB 0x33 8 ≤ mB 0x33 8 := Nat.and_le_right
  unfold pB
  rw [mB_B] at *
  omega
theorem pop_A (x : Nat) (hx : x < 18446744073709551616) : IntKind.u64.wrap (bits BinOp.and IntKind.u64 ((x : Int) / 2) 6148914691236517205 + bits BinOp.and IntKind.u64 (x : Int) 6148914691236517205) = ((pA 8 x : Nat) : Int) := by
  have h0 := pA_le x
  have e : (x : Int) / 2 = ((x / 2 : Nat) : Int) := by omega
  have h1 : bits BinOp.and IntKind.u64 ((x / 2 : Nat) : Int) 6148914691236517205 = ((x / 2 &&& 6148914691236517205 : Nat) : Int) := bits_and_u64_nat (x / 2) 6148914691236517205 (by omega) (by omega)
  have h2 : bits BinOp.and IntKind.u64 (x : Int) 6148914691236517205 = ((x &&& 6148914691236517205 : Nat) : Int) := bits_and_u64_nat x 6148914691236517205 hx (by omega)
  rw [e]
  rw [h1, h2, IntKind.wrap_u64]
  unfold pA at *
  rw [mB_A] at *
  omega
theorem pop_B (x : Nat) (hx : x < 18446744073709551616) : IntKind.u64.wrap (bits BinOp.and IntKind.u64 ((x : Int) / 4) 3689348814741910323 + bits BinOp.and IntKind.u64 (x : Int) 3689348814741910323) = ((pB 8 x : Nat) : Int) := by
  have h0 := pB_le x
  have e : (x : Int) / 4 = ((x / 4 : Nat) : Int) := by omega
  have h1 : bits BinOp.and IntKind.u64 ((x / 4 : Nat) : Int) 3689348814741910323 = ((x / 4 &&& 3689348814741910323 : Nat) : Int) := bits_and_u64_nat (x / 4) 3689348814741910323 (by omega) (by omega)
  have h2 : bits BinOp.and IntKind.u64 (x : Int) 3689348814741910323 = ((x &&& 3689348814741910323 : Nat) : Int) := bits_and_u64_nat x 3689348814741910323 hx (by omega)
  rw [e]
  rw [h1, h2, IntKind.wrap_u64]
  unfold pB at *
  rw [mB_B] at *
  omega
theorem pop_C (x : Nat) (hx : x ≤ 7378697629483820646) : bits BinOp.and IntKind.u64 ((x : Int) / 16 + (x : Int)) 1085102592571150095 = ((pC 8 x : Nat) : Int) := by
  have e : (x : Int) / 16 + (x : Int) = ((x / 16 + x : Nat) : Int) := by omega
  have h1 : bits BinOp.and IntKind.u64 ((x / 16 + x : Nat) : Int) 1085102592571150095 = ((x / 16 + x &&& 1085102592571150095 : Nat) : Int) := bits_and_u64_nat (x / 16 + x) 1085102592571150095 (by omega) (by omega)
  rw [e, h1]
  unfold pC
  rw [mB_C]
theorem wrap64_small (a : Nat) (h : a < 9223372036854775808) : wrap64 (a : Int) = (a : Int) := by
  unfold wrap64; omega
theorem pop_D (c : Nat) (h : pD c < 18446744073709551616) : IntKind.u64.wrap ((c : Int) + (c : Int) / 256) = ((pD c : Nat) : Int) := by
  unfold pD at *; rw [IntKind.wrap_u64]; omega
theorem pop_E (c : Nat) (h : pE c < 18446744073709551616) : IntKind.u64.wrap ((c : Int) + (c : Int) / 65536) = ((pE c : Nat) : Int) := by
  unfold pE at *; rw [IntKind.wrap_u64]; omega
theorem pop_F (c : Nat) (h : pF c < 18446744073709551616) : IntKind.u64.wrap ((c : Int) + (c : Int) / 4294967296) = ((pF c : Nat) : Int) := by
  unfold pF at *; rw [IntKind.wrap_u64]; omega
theorem bits_and_127 (a : Nat) (h : a < 9223372036854775808) : bits BinOp.and IntKind.i64 (a : Int) 127 = ((a % 128 : Nat) : Int) := by
  have h1 : (BitVec.ofInt 64 (a : Int)).toNat = a := by
    rw [BitVec.ofInt_natCast, BitVec.toNat_ofNat]; exact Nat.mod_eq_of_lt (by omega)
  have h2 : (BitVec.ofInt 64 (127 : Int)).toNat = 127 := by decide
  have h3 : a &&& 127 = a % 128 := Nat.and_two_pow_sub_one_eq_mod a 7
  show IntKind.i64.wrap ((BitVec.ofInt 64 (a : Int) &&& BitVec.ofInt 64 (127 : Int)).toNat : Int) = _
  rw [BitVec.toNat_and, h1, h2, h3, IntKind.wrap_i64]
  omega

set_option maxRecDepth 100000 in
set_option maxHeartbeats 2000000 in
theorem onesCount_any (x : Nat) (w : World) (hx : x < 18446744073709551616) :
    Calls Tryz.prog 145 #[.int .u64 (x : Int)] w fun e w' => e = .returned (.int .i64 ((cnB (fun j => x.testBit j) 64 : Nat) : Int)) ∧ w' = w := by
  obtain ⟨hpop, hlt⟩ := pop_all x hx
  have l1 : pD (pC 8 (pB 8 (pA 8 x))) ≤ pE (pD (pC 8 (pB 8 (pA 8 x)))) := Nat.le_add_right _ _
  have l2 : pE (pD (pC 8 (pB 8 (pA 8 x)))) ≤ pF (pE (pD (pC 8 (pB 8 (pA 8 x))))) := Nat.le_add_right _ _
  have z1 := pA_le x
  have z2 := pB_le (pA 8 x)
  have q1 := pop_A x hx
  have q2 := pop_B (pA 8 x) (by omega)
  have q3 := pop_C (pB 8 (pA 8 x)) z2
  have q3w : IntKind.u64.wrap (((pB 8 (pA 8 x) : Nat) : Int) / 16 + ((pB 8 (pA 8 x) : Nat) : Int)) = ((pB 8 (pA 8 x) : Nat) : Int) / 16 + ((pB 8 (pA 8 x) : Nat) : Int) := by rw [IntKind.wrap_u64]; omega
  have q4 := pop_D (pC 8 (pB 8 (pA 8 x))) (by omega)
  have q5 := pop_E (pD (pC 8 (pB 8 (pA 8 x)))) (by omega)
  have q6 := pop_F (pE (pD (pC 8 (pB 8 (pA 8 x))))) (by omega)
  have q7 := bits_and_127 _ hlt
  have q8 := wrap64_small _ hlt
  rw [hpop] at q7
  go_enter Tryz.func145, Tryz.ntmps145
  generalize cnB (fun j => x.testBit j) 64 = N at *
  clear hpop l1 l2 z1 z2
  generalize pF (pE (pD (pC 8 (pB 8 (pA 8 x))))) = f at *
  generalize pE (pD (pC 8 (pB 8 (pA 8 x)))) = e0 at *
  generalize pD (pC 8 (pB 8 (pA 8 x))) = d0 at *
  generalize pC 8 (pB 8 (pA 8 x)) = c0 at *
  generalize pB 8 (pA 8 x) = b0 at *
  generalize pA 8 x = a0 at *
  go_wp2
  go_ret
  exact ⟨rfl, rfl⟩

/-- How many places a set has. -/
theorem count_any (X n : Nat) (f : Nat → Bool) (w : World) (h : X < 2 ^ n) (hn : n ≤ 60) (hf : ∀ j, X.testBit j = f j) :
    Calls Tryz.prog 95 #[.int .u64 (X : Int)] w fun e w' => e = .returned (.int .i64 ((cnB f n : Nat) : Int)) ∧ w' = w := by
  have hX : X < 18446744073709551616 := by
    have h2 : 2 ^ n ≤ 2 ^ 60 := Nat.pow_le_pow_right (by omega) hn
    omega
  have e : cnB (fun j => X.testBit j) 64 = cnB f n := by
    obtain ⟨d, hd⟩ : ∃ d, 64 = n + d := ⟨64 - n, by omega⟩
    rw [hd, cnB_add, cnB_ext n (fun j _ => hf j)]
    have : ∀ d, cnB (fun j => X.testBit (n + j)) d = 0 := fun d => by
      induction d with
      | zero => rfl
      | succ d ih =>
        rw [cnB, ih]
        have : X.testBit (n + d) = false := Nat.testBit_lt_two_pow (Nat.lt_of_lt_of_le h (Nat.pow_le_pow_right (by omega) (by omega)))
        simp [this]
    rw [this]; omega
  have hc := onesCount_any X w hX
  rw [e] at hc
  have hl := cnB_le f n
  go_enter Tryz.func95, Tryz.ntmps95
  go_wp2_with (go_at_call 145; refine hc.mono ?_; rintro e w1 ⟨rfl, rfl⟩)
  go_ret
  exact ⟨rfl, rfl⟩

end Go.Proofs.YtfipbnognjepkaaGreatDoor

/-! ### BbI -/
namespace Go.Proofs.YtfipbnognjepkaaGreatDoor
set_option linter.unusedVariables false
set_option linter.unusedSimpArgs false
open Go.RowKit

def Cw2 (W : World) (b : Nat) (x y : Value) : Prop := W.heap[b]? = some (.cells #[x, y] 103 (0, 0))
theorem Cw2.lt {W : World} {b : Nat} {x y : Value} (h : Cw2 W b x y) : b < W.heap.size := (Array.getElem?_eq_some_iff.1 h).1
theorem Cw2.c0 {W : World} {b : Nat} {x y : Value} (h : Cw2 W b x y) : W.cell? ⟨b, 0, none⟩ = some x := by simp [World.cell?, show W.heap[b]? = _ from h]
theorem Cw2.c1 {W : World} {b : Nat} {x y : Value} (h : Cw2 W b x y) : W.cell? ⟨b, 1, none⟩ = some y := by simp [World.cell?, show W.heap[b]? = _ from h]
theorem Cw2.fz {W : World} {b : Nat} {x y : Value} (h : Cw2 W b x y) (j : Nat) : W.frozen? ⟨b, j, none⟩ = false := by simp [World.frozen?, show W.heap[b]? = _ from h]
theorem Cw2.later {W W' : World} {b B : Nat} {x y : Value} (h : Cw2 W b x y) (k : Below B W W') (hb : b < B) : Cw2 W' b x y := (k.block _ hb).trans h
theorem Cw2.other {W : World} {b : Nat} {x y : Value} (h : Cw2 W b x y) {b' j : Nat} (hne : b ≠ b') (u : Value) : Cw2 (W.setCell ⟨b', j, none⟩ u) b x y := (Below.heap_setCell _ _ _ b (fun e => hne (by rw [e]))).trans h
theorem Cw2.seta {W : World} {b : Nat} {x y : Value} (h : Cw2 W b x y) (p : Value) : Cw2 (W.setCell ⟨b, 0, none⟩ p) b p y := by
  obtain ⟨hlt, hk⟩ := Array.getElem?_eq_some_iff.1 h
  show (W.heap.modify b _)[b]? = _
  rw [Array.getElem?_eq_getElem (by rw [Array.size_modify]; exact hlt), Array.getElem_modify_self, hk]
  rfl
theorem Cw2.setb {W : World} {b : Nat} {x y : Value} (h : Cw2 W b x y) (p : Value) : Cw2 (W.setCell ⟨b, 1, none⟩ p) b x p := by
  obtain ⟨hlt, hk⟩ := Array.getElem?_eq_some_iff.1 h
  show (W.heap.modify b _)[b]? = _
  rw [Array.getElem?_eq_getElem (by rw [Array.size_modify]; exact hlt), Array.getElem_modify_self, hk]
  rfl
theorem Cw2.new (W : World) (x y : Value) : Cw2 (W.alloc (.cells #[x, y] 103)) W.heap.size x y := World.alloc_heap_new W _
theorem slice_toB (x : ByteArray) (n : Nat) (h : n ≤ x.size) (W : World) :
    (Instr.slice 9 (.string x) none (some (.int .i64 (n : Int))) none).run Tryz.prog W = .ok (.string (x.extract 0 n)) W := by
  have := run_slice_string_h (P := Tryz.prog) W 9 x Tryz.underlying9 .i64 (n : Int) (by omega) (by omega)
  simpa using this
theorem ownI_lkB {w : World} {B : Nat} {v : Value} {L : List Int} (h : OwnI w B v L) : ∃ ad cap, v = .slice ad L.length cap ∧ ∀ j (hj : j < L.length), ∃ g, ad = some ⟨g, 0, none⟩ ∧ g < w.heap.size ∧ j < cap ∧ w.cell? ⟨g, j, none⟩ = some (.int .i64 (L[j]'hj)) := by
  rcases own_forms h with ⟨rfl, h0, _⟩ | ⟨g, cap, rfl, _, hg, hc, _, hk, _⟩
  · exact ⟨_, _, by rw [h0], fun j hj => by omega⟩
  · refine ⟨_, _, rfl, fun j hj => ⟨g, rfl, hg, by omega, ?_⟩⟩
    rw [hk j hj]
    simp [hj]

theorem ext00 (x : ByteArray) : x.extract 0 0 = ⟨#[]⟩ := by
  apply ByteArray.ext
  simp
set_option maxRecDepth 100000 in
set_option maxHeartbeats 4000000 in
theorem bestBorder1_any (b : Nat) (x : ByteArray) (w : World) (c1 : Boxed w b 9 (.string x)) (sx : x.size ≤ maxLen) :
    Calls Tryz.prog 93 #[.pointer (some ⟨b, 0, none⟩)] w fun e w' => EndC (bestR x) e ∧ Below w.heap.size w w' := by
  have k1 := c1.cell
  have l1 := c1.lt
  have W0 : ∃ W0 : World, W0 = w.alloc (.cells #[.string ⟨#[]⟩, .int .i64 0] 103) := ⟨_, rfl⟩
  have c1' : Boxed (w.alloc (.cells #[.string ⟨#[]⟩, .int .i64 0] 103)) b 9 (.string x) := c1.alloc _
  have l1' := c1'.lt
  have r0 := Cw2.new w (.string ⟨#[]⟩) (.int .i64 0)
  have rl0 := r0.lt
  have hB0 : Below w.heap.size w (w.alloc (.cells #[.string ⟨#[]⟩, .int .i64 0] 103)) := Below.new _ _
  clear W0
  by_cases h : IsW x
  · have H := Lib.hid h
    have hx := h.size
    have hbr := fun W => impl_BordersOf x W sx
    rw [bordersR_ok h] at hbr
    have hbr2 : ∀ W, Calls Tryz.prog 34 #[.string x] W (RetI (bordsR (bl x) x.size) 0 W) := hbr
    have hml : ∀ z ∈ bordsR (bl x) x.size, 0 ≤ z ∧ z < x.size := fun z hz => bordsR_mem hz
    have hll := bordsR_len (bl x) x.size
    have hall := bsF_all (x := x)
    have hr0 : (bbF x (x.size - 1)).2 = 0 → bestR x = (⟨#[]⟩, 0, 4) := bestR_none h
    have hr1 : ¬ (bbF x (x.size - 1)).2 = 0 → bestR x = (x.extract 0 (bbF x (x.size - 1)).1, ((bbF x (x.size - 1)).2 : Int), 0) := bestR_ok h
    rw [← hall] at hr0 hr1
    clear hbr h hall
    generalize bordsR (bl x) x.size = L at *
    have HBR := Lib.hid hbr2
    have HML := Lib.hid hml
    have HR0 := Lib.hid hr0
    have HR1 := Lib.hid hr1
    clear hbr2 hml hr0 hr1
    go_enter Tryz.func93, Tryz.ntmps93
    go_wp2_with (first | (go_at_call 77; refine (isWord_yes x _ H.out).mono ?_; rintro e w2 ⟨rfl, a1⟩; have c2 := (boxed_past c1' a1 l1'); have c3 := c2.alloc (.cells #[.string ⟨#[]⟩, .int .i64 0] 103); have k3 := c3.cell) | (go_at_call 55; with_reducible refine (refuse_yes _ _).mono ?_; rintro e w1 ⟨rfl, rfl⟩) | (go_at_call 34; refine (HBR.out _).mono ?_; rintro e w3 ⟨v3, rfl, o3, b3⟩; obtain ⟨ad, cap, rfl, look⟩ := ownI_lkB o3))
    have B1 : Below w.heap.size w w1 := hB0.then a1
    have hG1 := B1.size
    have hnG : w.heap.size < w1.heap.size := by have := a1.size; simp at this; omega
    have p1 := (Cw2.new w1 (.string ⟨#[]⟩) (.int .i64 0)).later b3 (by simp)
    have hz1 : (w1.alloc (.cells #[.string ⟨#[]⟩, .int .i64 0] 103)).heap.size = w1.heap.size + 1 := by simp
    have r1 := ((r0.later a1 rl0).later (Below.new w1 (.cells #[.string ⟨#[]⟩, .int .i64 0] 103)) hnG).later b3 (by rw [hz1]; omega)
    have c4 := boxed_past c3 b3 c3.lt
    have B3 : Below w.heap.size w w3 := (B1.alloc hG1 _).then b3
    rw [hz1] at o3
    generalize hG : w1.heap.size = G at *
    clear look b3 c3 k3 c2 r0 B1 hG1 a1 hz1
    go_loopw [19] (fun s19 wr => ∃ k : Nat, k ≤ L.length ∧ s19 = .int .i64 (k : Int) ∧ Cw2 wr G (.string (x.extract 0 (bsF x (L.take k)).1)) (.int .i64 ((bsF x (L.take k)).2 : Int)) ∧ Cw2 wr w.heap.size (.string ⟨#[]⟩) (.int .i64 0) ∧ Boxed wr b 9 (.string x) ∧ OwnI wr (G + 1) (.slice ad L.length cap) L ∧ Below w.heap.size w wr)
      (fun s19 _ => L.length - (intOf s19).toNat)
    case atStart => exact ⟨0, Nat.zero_le _, rfl, by rw [show bsF x (L.take 0) = (0, 0) from rfl, ext00]; exact p1, r1, c4, o3, B3⟩
    case round =>
      clear p1 r1 c4 o3 B3
      obtain ⟨k, hk, rfl, p1, r1, c4, o3, B3⟩ := hrel
      have hle := bsF_le (x := x) (L.take k)
      have q1 := p1.c0
      have q2 := p1.c1
      have k4 := c4.cell
      by_cases hp : k < L.length
      · obtain ⟨ad2, cap2, hv, look⟩ := ownI_lkB o3
        obtain ⟨g, hg1, hg2, hg3, hg4⟩ := look k hp
        cases hv
        subst hg1
        obtain ⟨z0, z1⟩ := HML.out _ (List.getElem_mem hp)
        obtain ⟨z, hz⟩ : ∃ z : Nat, L[k]'hp = (z : Int) := ⟨(L[k]'hp).toNat, by omega⟩
        rw [hz] at hg4 z0 z1
        have hsl := slice_toB x z (by omega)
        have ht60 : (x.extract 0 z).size ≤ 60 := by rw [ByteArray.size_extract]; omega
        have hic := fun W => callsIn_wide.1 (inner_covered_in x (x.extract 0 z) W hx ht60)
        have hco := fun W => count_any (msk x (x.extract 0 z)) x.size (cvB x (x.extract 0 z)) W (msk_lt _ _) hx (msk_bit _ _)
        have hcv : cnB (cvB x (x.extract 0 z)) x.size = cvN x (x.extract 0 z) := rfl
        rw [hcv] at hco
        have hcl := cvN_le x (x.extract 0 z)
        have HIC := Lib.hid hic
        have HCO := Lib.hid hco
        have hkn : (k : Int) < (L.length : Int) := by omega
        have hk0 : (0 : Int) ≤ (k : Int) := by omega
        have htk := List.take_succ_eq_append_getElem hp
        have hms : ¬ (bsF x (L.take k)).2 < cvN x (x.extract 0 z) → bsF x (L.take (k + 1)) = bsF x (L.take k) := fun h => by
          rw [htk, hz]; exact bsF_miss (by rw [Int.toNat_natCast]; exact h)
        have hht : (bsF x (L.take k)).2 < cvN x (x.extract 0 z) → bsF x (L.take (k + 1)) = (z, cvN x (x.extract 0 z)) := fun h => by
          rw [htk, hz]
          have := bsF_hit (x := x) (L := L.take k) (z := (z : Int)) (by rw [Int.toNat_natCast]; exact h)
          rw [Int.toNat_natCast] at this
          exact this
        have HMS := Lib.hid hms
        have HHT := Lib.hid hht
        clear hms hht htk hic hco hcv look hz z0 z1
        by_cases hlt : (bsF x (L.take k)).2 < cvN x (x.extract 0 z)
        · have e9 := Lib.hid (HHT.out hlt)
          have hgt : (cvN x (x.extract 0 z) : Int) > ((bsF x (L.take k)).2 : Int) := by omega
          have hdc : decide ((bsF x (L.take k)).2 < cvN x (x.extract 0 z)) = true := decide_eq_true hlt
          generalize cvN x (x.extract 0 z) = nn at *
          generalize (bsF x (L.take k)).2 = n0 at *
          generalize x.extract 0 (bsF x (L.take k)).1 = s0 at *
          generalize ht : x.extract 0 z = t at *
          have HT := Lib.hid ht
          clear ht
          go_wp2_with (first | (go_at_call 94; refine (HIC.out _).mono ?_; rintro e w5 ⟨rfl, b5⟩; have p2 := p1.later b5 p1.lt; have q3 := p2.c0; have q4 := p2.c1; have q5 := p2.fz 0; have q6 := p2.fz 1) | (go_at_call 95; refine (HCO.out _).mono ?_; rintro e w6 ⟨rfl, rfl⟩))
          go_roundw
          case rel =>
            have e8 := e9.out
            refine ⟨k + 1, by omega, by go_num, ?_, ?_, ?_, ?_, ?_⟩
            · rw [e8, HT.out]
              exact (p2.seta _).setb _
            · exact ((r1.later b5 r1.lt).other (by omega) _).other (by omega) _
            · exact (boxed_past c4 b5 c4.lt).kept (grown_set (grown_set (grown_refl w6 (some G)) 0 _) 1 _) (by intro e; injection e with e; omega)
            · exact World.ownsRow.kept (o3.below b5) (grown_set (grown_set (grown_refl w6 (some G)) 0 _) 1 _) (.inr (fun e => by have := ((o3.below b5).lt G e).1; omega))
            · exact ((B3.then b5).setCell (p := ⟨G, 0, none⟩) (Nat.le_of_lt hnG) _).setCell (p := ⟨G, 1, none⟩) (Nat.le_of_lt hnG) _
          case measure => simp [intOf]; omega
        · have e9 := Lib.hid (HMS.out hlt)
          have hgt : ¬ (cvN x (x.extract 0 z) : Int) > ((bsF x (L.take k)).2 : Int) := by omega
          have hdc : decide ((bsF x (L.take k)).2 < cvN x (x.extract 0 z)) = false := decide_eq_false hlt
          have p1' := Lib.hid p1
          generalize cvN x (x.extract 0 z) = nn at *
          generalize hn0 : (bsF x (L.take k)).2 = n0 at *
          generalize hs0 : x.extract 0 (bsF x (L.take k)).1 = s0 at *
          have HN0 := Lib.hid hn0
          have HS0 := Lib.hid hs0
          clear hn0 hs0
          generalize x.extract 0 z = t at *
          go_wp2_with (first | (go_at_call 94; refine (HIC.out _).mono ?_; rintro e w5 ⟨rfl, b5⟩; have p2 := p1.later b5 p1.lt; have q3 := p2.c0; have q4 := p2.c1) | (go_at_call 95; refine (HCO.out _).mono ?_; rintro e w6 ⟨rfl, rfl⟩))
          go_roundw
          case rel =>
            refine ⟨k + 1, by omega, by go_num, ?_, r1.later b5 r1.lt, boxed_past c4 b5 c4.lt, o3.below b5, B3.then b5⟩
            rw [e9.out, HN0.out, HS0.out]
            exact p2
          case measure => simp [intOf]; omega
      · obtain rfl : k = L.length := by omega
        have hkn : ¬ (L.length : Int) < (L.length : Int) := by omega
        rw [List.take_length] at p1 q1 q2 hle
        have r2 := r1.fz 0
        have r3 := r1.fz 1
        have r4 := r1.c0
        have r5 := r1.c1
        by_cases h0 : (bsF x L).2 = 0
        · have E0 := Lib.hid (HR0.out h0)
          rw [h0] at q2
          go_wp2_with (go_at_call 55; with_reducible refine (refuse_no _ _).mono ?_; rintro e w7 ⟨rfl, rfl⟩)
          exact ⟨rfl, by rw [E0.out]; exact .inr ⟨rfl, rfl, rfl⟩, B3⟩
        · have E0 := Lib.hid (HR1.out h0)
          have hgt : ((bsF x L).2 : Int) > 0 := by omega
          have hgt2 : 0 < (bsF x L).2 := by omega
          generalize x.extract 0 (bsF x L).1 = s1 at *
          generalize (bsF x L).2 = n1 at *
          go_wp2_with (go_at_call 55; with_reducible refine (refuse_yes _ _).mono ?_; rintro e w7 ⟨rfl, rfl⟩)
          have r9 := (r1.seta (.string s1)).setb (.int .i64 (n1 : Int))
          have e0 := r9.c0
          have e1 := r9.c1
          refine bodyPost_ret (v := .agg #[.string s1, .int .i64 (n1 : Int)]) ?_ rfl ⟨by rw [E0.out]; exact .inl ⟨rfl, rfl⟩, (B3.setCell (p := ⟨w.heap.size, 0, none⟩) (Nat.le_refl _) _).setCell (p := ⟨w.heap.size, 1, none⟩) (Nat.le_refl _) _⟩
          simp [results, Tryz.results93, go_sem, e0, e1]
  · rw [bestR_bad h]
    have H := Lib.hid h
    clear h
    go_enter Tryz.func93, Tryz.ntmps93
    go_wp2_with (first | (go_at_call 77; refine (isWord_not x _ sx H.out).mono ?_; rintro e w1 ⟨rfl, a1⟩) | (go_at_call 55; refine (refuse_no _ _).mono ?_; rintro e w2 ⟨rfl, rfl⟩))
    exact ⟨rfl, .inr ⟨rfl, rfl, rfl⟩, hB0.then a1⟩

theorem three_past {w W w1 : World} {p q : Addr} {a b : Value} (b1 : Below W.heap.size W w1) (h : W.cell? p = some a ∧ W.cell? q = some b ∧ Below w.heap.size w W) (hp : p.block < w.heap.size) (hq : q.block < w.heap.size) :
    w1.cell? p = some a ∧ w1.cell? q = some b ∧ Below w.heap.size w w1 := by
  have hs := h.2.2.size
  exact ⟨by rw [b1.cell (by omega)]; exact h.1, by rw [b1.cell (by omega)]; exact h.2.1, h.2.2.then b1⟩
theorem bestR_size (x : ByteArray) : (bestR x).1.size ≤ 60 := by
  unfold bestR
  split
  · exact Nat.zero_le _
  · rename_i h
    have h := Classical.not_not.1 h
    split
    · exact Nat.zero_le _
    · show (x.extract 0 _).size ≤ 60
      rw [ByteArray.size_extract]
      have := h.size
      omega

set_option maxRecDepth 100000 in
set_option maxHeartbeats 2000000 in
theorem impl_BestBorder (x : ByteArray) (w : World) (sx : x.size ≤ maxLen) :
    Calls Tryz.prog 31 #[.string x] w fun e w' => e = .returned (.tuple #[.string (bestR x).1, .int .i64 (bestR x).2.1, .int .i64 (bestR x).2.2]) ∧ Below w.heap.size w w' := by
  have hmf : ∀ (fn : Fn) (first cap : Array Value) (w : World), (Instr.makeFunc fn first cap).run Tryz.prog w = .ok (.func fn first cap) w := fun _ _ _ _ => rfl
  have hmo : Tryz.prog.follows .mixedOrders = true := by kernel_rfl
  have c1 : Boxed (doorW (w.alloc (.cells #[.string x] 9))) w.heap.size 9 (.string x) := ((Boxed.new w _ _).alloc _).alloc _
  have hB : Below w.heap.size w (w.alloc (.cells #[.string x] 9)) := Below.new _ _
  have hd := door_count 93 #[.pointer (some ⟨w.heap.size, 0, none⟩)] (w.alloc (.cells #[.string x] 9)) (bestR x) (enters_of Tryz.func93 (by kernel_rfl) rfl) (bestBorder1_any w.heap.size x _ c1 sx)
  have hs60 := bestR_size x
  generalize bestR x = r at *
  obtain ⟨s, n, c⟩ := r
  have HD := Lib.hid hd
  clear hd c1
  go_enter Tryz.func31, Tryz.ntmps31
  go_wp2_with (go_at_call 92; refine HD.out.mono ?_; rintro e w1 ⟨rfl, b1⟩)
  have p9 := Cw2.new w1 (.string s) (.int .i64 n)
  have B9 : Below w.heap.size w (w1.alloc (.cells #[.string s, .int .i64 n] 103)) := (hB.then b1).alloc (hB.then b1).size _
  generalize w1.alloc (.cells #[.string s, .int .i64 n] 103) = W9 at *
  have q0 := p9.c0
  have q1 := p9.c1
  have ql := p9.lt
  generalize w1.heap.size = G at *
  go_region_held3 (fun w' => w'.cell? ⟨G, 0, none⟩ = some (.string s) ∧ w'.cell? ⟨G, 1, none⟩ = some (.int .i64 n) ∧ Below W9.heap.size W9 w') (first | assumption | exact ⟨q0, q1, Below.refl _ _⟩ | exact ⟨q0, q1, (Below.refl _ _).drew⟩ | (refine ⟨?_, ?_, ?_⟩ <;> first | assumption | exact Below.drew (by assumption) | go_keep)) (first | (go_at_call 96; refine (strings_Clone _ _ (by omega)).mono ?_; rintro e w5 ⟨rfl, b5⟩; have kp := three_past b5 (by first | assumption | exact ⟨by assumption, by assumption, by assumption⟩ | exact ⟨q0, q1, Below.refl _ _⟩ | exact ⟨q0, q1, (Below.refl _ _).drew⟩) ql ql))
  all_goals (try go_wp2_with fail)
  all_goals (
    obtain ⟨z0, z1, z2⟩ := (by assumption : (_ ∧ _ ∧ Below W9.heap.size W9 _))
    first
      | (refine bodyPost_ret (v := .tuple #[.string s, .int .i64 n, .int .i64 c]) ?_ rfl ⟨rfl, B9.then z2⟩; simp [results, Tryz.results31, go_sem]; done)
      | (trace_state; sorry))

end Go.Proofs.YtfipbnognjepkaaGreatDoor

/-! ### UncPlain -/
namespace Go.Proofs.YtfipbnognjepkaaGreatDoor
set_option linter.unusedVariables false
set_option linter.unusedSimpArgs false
open Go.RowKit

theorem low_form {R : Nat} (h0 : 0 < R) (h : R < 18446744073709551616) : ∃ m, R = 2 ^ Lib.ctz 64 R * (2 * m + 1) ∧ Lib.ctz 64 R < 64 := by
  unfold Lib.ctz
  rw [if_neg (by omega)]
  exact Lib.ctzFrom_spec 64 R h0 (by omega)
theorem low_bit {R : Nat} (h0 : 0 < R) (h : R < 18446744073709551616) : R.testBit (Lib.ctz 64 R) = true := by
  obtain ⟨m, e, hk⟩ := low_form h0 h
  generalize Lib.ctz 64 R = k at *
  rw [e, Nat.testBit_two_pow_mul]
  simp [Nat.testBit_zero]
theorem low_none {R : Nat} (h0 : 0 < R) (h : R < 18446744073709551616) {j : Nat} (hj : j < Lib.ctz 64 R) : R.testBit j = false := by
  obtain ⟨m, e, hk⟩ := low_form h0 h
  generalize Lib.ctz 64 R = k at *
  rw [e, Nat.testBit_two_pow_mul]
  have : ¬ k ≤ j := by omega
  simp [this]
theorem low_pred {R : Nat} (h0 : 0 < R) (h : R < 18446744073709551616) (j : Nat) : (R &&& (R - 1)).testBit j = (R.testBit j && decide (j ≠ Lib.ctz 64 R)) := by
  obtain ⟨m, e, hk⟩ := low_form h0 h
  generalize Lib.ctz 64 R = k at *
  have hp : 0 < 2 ^ k := Nat.pow_pos (by omega)
  have e1 : R = 2 ^ k * (2 * m + 1) + 0 := by omega
  have e2 : R - 1 = 2 ^ k * (2 * m) + (2 ^ k - 1) := by
    rw [e, Nat.mul_add, Nat.mul_one]; omega
  rw [Nat.testBit_and, e2, Nat.testBit_two_pow_mul_add _ (by omega)]
  by_cases hj : j < k
  · have hf : R.testBit j = false := by
      rw [e, Nat.testBit_two_pow_mul]
      have : ¬ k ≤ j := by omega
      simp [this]
    rw [hf]; rfl
  · rw [if_neg hj]
    by_cases he : j = k
    · subst he
      have : (2 * m).testBit (j - j) = false := by rw [Nat.sub_self, Nat.testBit_zero]; simp
      rw [this]; simp
    · obtain ⟨i, hi⟩ : ∃ i, j - k = i + 1 := ⟨j - k - 1, by omega⟩
      have hR : R.testBit j = m.testBit i := by
        rw [e, Nat.testBit_two_pow_mul, hi, Nat.testBit_succ]
        have : k ≤ j := by omega
        simp only [this, ge_iff_le, decide_true, Bool.true_and]
        congr 1; omega
      rw [hR, hi, Nat.testBit_succ]
      have d : 2 * m / 2 = m := by omega
      rw [d]
      simp [he]
/-- The places below c that a set has. -/
def lowL (s c : Nat) : List Int := ((List.range c).filter fun j => s.testBit j).map Int.ofNat
theorem lowL_len (s c : Nat) : (lowL s c).length ≤ c := by
  unfold lowL; rw [List.length_map]
  have := List.length_filter_le (fun j => s.testBit j) (List.range c)
  rw [List.length_range] at this; exact this
theorem lowL_skip {s c : Nat} : ∀ d, (∀ j, c ≤ j → j < c + d → s.testBit j = false) → lowL s (c + d) = lowL s c
  | 0, _ => rfl
  | d + 1, h => by
    have ih := lowL_skip (s := s) (c := c) d (fun j h1 h2 => h j h1 (by omega))
    have hf := h (c + d) (by omega) (by omega)
    rw [← ih]
    unfold lowL
    rw [← Nat.add_assoc, List.range_succ, List.filter_append]
    simp [hf]
theorem lowL_hit {s c : Nat} (h : s.testBit c = true) : lowL s (c + 1) = lowL s c ++ [(c : Int)] := by
  unfold lowL
  rw [List.range_succ, List.filter_append]
  simp [h]
/-- What is left behind the places below c. -/
def Rest (s c R : Nat) : Prop := ∀ j, R.testBit j = (s.testBit j && decide (c ≤ j))
theorem rest_start (s : Nat) : Rest s 0 s := fun j => by simp
theorem rest_step {s c R : Nat} (h : Rest s c R) (h0 : 0 < R) (hR : R < 18446744073709551616) : c ≤ Lib.ctz 64 R ∧ s.testBit (Lib.ctz 64 R) = true ∧ lowL s (Lib.ctz 64 R + 1) = lowL s c ++ [(Lib.ctz 64 R : Int)] ∧ Rest s (Lib.ctz 64 R + 1) (R &&& (R - 1)) := by
  have h1 := low_bit h0 hR
  have h2 := fun j => low_none (j := j) h0 hR
  have h3 := low_pred h0 hR
  generalize Lib.ctz 64 R = k at *
  have hk := h k
  rw [h1] at hk
  have hk1 : s.testBit k = true ∧ c ≤ k := by
    have := hk.symm
    simpa using this
  refine ⟨hk1.2, hk1.1, ?_, fun j => ?_⟩
  · rw [lowL_hit hk1.1]
    have e : lowL s k = lowL s c := by
      obtain ⟨d, rfl⟩ : ∃ d, k = c + d := ⟨k - c, by omega⟩
      refine lowL_skip d (fun j h4 h5 => ?_)
      have := h j
      rw [h2 j h5] at this
      have h6 : (decide (c ≤ j)) = true := decide_eq_true h4
      rw [h6, Bool.and_true] at this
      exact this.symm
    rw [e]
  · rw [h3 j, h j]
    by_cases hj : j = k
    · subst hj; simp
    · by_cases hlt : j < k
      · have := h j
        rw [h2 j hlt] at this
        rw [← this]
        have : ¬ k + 1 ≤ j := by omega
        simp [this]
      · have a : c ≤ j := by omega
        have b : k + 1 ≤ j := by omega
        simp [a, b, hj]
theorem rest_end {s c : Nat} {n : Nat} (h : Rest s c 0) (hs : s < 2 ^ n) : lowL s c = lowL s n := by
  by_cases hc : c ≤ n
  · obtain ⟨d, rfl⟩ : ∃ d, n = c + d := ⟨n - c, by omega⟩
    refine (lowL_skip d (fun j h1 _ => ?_)).symm
    have := h j
    rw [Nat.zero_testBit] at this
    have h6 : (decide (c ≤ j)) = true := decide_eq_true h1
    rw [h6, Bool.and_true] at this
    exact this.symm
  · obtain ⟨d, rfl⟩ : ∃ d, c = n + d := ⟨c - n, by omega⟩
    exact lowL_skip d (fun j h1 _ => Nat.testBit_lt_two_pow (Nat.lt_of_lt_of_le hs (Nat.pow_le_pow_right (by omega) h1)))
theorem rest_lt {s c R : Nat} (h : Rest s c R) (hs : s < 18446744073709551616) : R < 18446744073709551616 := by
  have : R < 2 ^ 64 := by
    apply Nat.lt_pow_two_of_testBit
    intro j hj
    rw [h j]
    have : s.testBit j = false := Nat.testBit_lt_two_pow (Nat.lt_of_lt_of_le hs (by have := Nat.pow_le_pow_right (n := 2) (by omega) hj; omega))
    simp [this]
  omega
theorem lowL_unc {x u : ByteArray} {s : Nat} (h : ∀ j, s.testBit j = (decide (j < x.size) && !cvB x u j)) : lowL s x.size = uncL x u x.size := by
  unfold lowL uncL
  congr 1
  apply List.filter_congr
  intro j hj
  rw [h j]
  simp [List.mem_range.1 hj]

end Go.Proofs.YtfipbnognjepkaaGreatDoor

/-! ### UncI -/
namespace Go.Proofs.YtfipbnognjepkaaGreatDoor
set_option linter.unusedVariables false
set_option linter.unusedSimpArgs false
open Go.RowKit

/-- The library's table in its variable. -/
def TabZ (W : World) : Prop := ∀ j, j < 64 → W.cell? ⟨0, j, none⟩ = some (.int .u8 (Lib.deBruijn64tab.getD j 0))
theorem TabZ.later {W W' : World} {B : Nat} (h : TabZ W) (b : Below B W W') (hB : 0 < B) : TabZ W' := fun j hj => by rw [b.cell hB]; exact h j hj

set_option maxHeartbeats 1000000 in
theorem tz64_core (x k idx : Nat) (w : World) (hx0 : ((x : Int) == 0) = false)
    (key : IntKind.u64.wrap (bits BinOp.and IntKind.u64 (x : Int) (IntKind.u64.wrap (-(x : Int))) * 285870213051353865) / 288230376151711744 = (idx : Int))
    (hi : idx < 64) (hk : k < 64) (hcell : w.cell? ⟨0, idx, none⟩ = some (.int .u8 k)) :
    Calls Tryz.prog 149 #[.int .u64 x] w fun e w' => e = .returned (.int .i64 k) ∧ w' = w := by
  go_enter Tryz.func149, Tryz.ntmps149
  go_wp2_with (simp only [key])
  go_ret
  exact ⟨rfl, rfl⟩
theorem tz64_any (x : Nat) (w : World) (hx : x < 18446744073709551616) (hx0 : 0 < x) (hT : TabZ w) :
    Calls Tryz.prog 149 #[.int .u64 x] w fun e w' => e = .returned (.int .i64 (Lib.ctz 64 x)) ∧ w' = w := by
  obtain ⟨hlow, hk⟩ := Lib.lowest_bit 64 x (by omega) hx
  obtain ⟨hi, htab⟩ := Lib.deBruijn64_at _ hk
  have hcell := hT _ hi
  rw [htab] at hcell
  exact tz64_core x _ _ w (by simp; omega) (tz64_key x _ hx (by omega) hlow) hi hk hcell
theorem bits_andNot_u64 (a b : Nat) (ha : a < 18446744073709551616) (hb : b < 18446744073709551616) :
    ∃ s : Nat, bits .andNot .u64 (a : Int) (b : Int) = (s : Int) ∧ s < 18446744073709551616 ∧ ∀ j, s.testBit j = (a.testBit j && !b.testBit j) := by
  have h1 : (BitVec.ofInt 64 (a : Int)).toNat = a := by
    rw [BitVec.ofInt_natCast, BitVec.toNat_ofNat]; exact Nat.mod_eq_of_lt (by omega)
  have h2 : (BitVec.ofInt 64 (b : Int)).toNat = b := by
    rw [BitVec.ofInt_natCast, BitVec.toNat_ofNat]; exact Nat.mod_eq_of_lt (by omega)
  refine ⟨(BitVec.ofInt 64 (a : Int) &&& ~~~ BitVec.ofInt 64 (b : Int)).toNat, ?_, by have := (BitVec.ofInt 64 (a : Int) &&& ~~~ BitVec.ofInt 64 (b : Int)).isLt; omega, fun j => ?_⟩
  · show IntKind.u64.wrap ((BitVec.ofInt 64 (a : Int) &&& ~~~ BitVec.ofInt 64 (b : Int)).toNat : Int) = _
    have := (BitVec.ofInt 64 (a : Int) &&& ~~~ BitVec.ofInt 64 (b : Int)).isLt
    rw [IntKind.wrap_u64]
    omega
  · rw [BitVec.testBit_toNat, BitVec.getLsbD_and, BitVec.getLsbD_not, ← BitVec.testBit_toNat, ← BitVec.testBit_toNat, h1, h2]
    by_cases hj : j < 64
    · simp [hj]
    · have : a.testBit j = false := Nat.testBit_lt_two_pow (Nat.lt_of_lt_of_le ha (by have := Nat.pow_le_pow_right (n := 2) (by omega) (show 64 ≤ j by omega); omega))
      simp [this]

set_option maxRecDepth 100000 in
set_option maxHeartbeats 2000000 in
theorem list_any (s n : Nat) (w : World) (hs : s < 2 ^ n) (hn : n ≤ 60) (hT : TabZ w) (hw0 : 0 < w.heap.size) :
    Calls Tryz.prog 102 #[.int .u64 (s : Int)] w fun e w' => ∃ v, e = .returned v ∧ OwnI w' w.heap.size v (lowL s n) ∧ Below w.heap.size w w' := by
  obtain ⟨i0, hi, hz0, hz1, hz2⟩ := info_parts infoI64
  have hs64 : s < 18446744073709551616 := by
    have h2 : 2 ^ n ≤ 2 ^ 60 := Nat.pow_le_pow_right (by omega) hn
    omega
  have HT := Lib.hid hT
  clear hT
  go_enter Tryz.func102, Tryz.ntmps102
  go_wp2
  go_loopw [3, 4] (fun s3 s4 wr => ∃ c R : Nat, c ≤ 64 ∧ s4 = .int .u64 (R : Int) ∧ Rest s c R ∧ OwnI wr w.heap.size s3 (lowL s c) ∧ Below w.heap.size w wr)
    (fun _ s4 _ => (intOf s4).toNat)
  case atStart => exact ⟨0, s, by omega, rfl, rest_start s, OwnI.nil _ _, Below.refl _ _⟩
  case round =>
    obtain ⟨c, R, hc, rfl, hR, hown, hB⟩ := hrel
    have hR64 := rest_lt hR hs64
    have hbz := hB.size
    by_cases h0 : 0 < R
    · obtain ⟨z1, z2, z3, z4⟩ := rest_step hR h0 hR64
      have hk64 := (low_form h0 hR64).choose_spec.2
      have hl := lowL_len s c
      have hTr := HT.out.later hB hw0
      have htz := fun W (hh : TabZ W) => tz64_any R W hR64 h0 hh
      have hand := bits_and_u64_nat R (R - 1) hR64 (by omega)
      have e1 : (R : Int) - 1 = ((R - 1 : Nat) : Int) := by omega
      have hlt : R &&& (R - 1) < R := by
        have := Nat.and_le_right (n := R) (m := R - 1)
        omega
      have hne : ((R : Int) == 0) = false := by simp; omega
      have hR0 : ¬ (R : Int) = 0 := by omega
      have Z3 := Lib.hid z3
      have Z4 := Lib.hid z4
      have HTr := Lib.hid hTr
      have HTZ := Lib.hid htz
      clear z2 z3 z4 hTr htz hR
      generalize lowL s c = L at *
      generalize hkk : Lib.ctz 64 R = k at *
      generalize hRR : R &&& (R - 1) = R2 at *
      clear hkk hRR
      go_wp2_with (first | (go_at_call 149; refine (HTZ.out _ HTr.out).mono ?_; rintro e w5 ⟨rfl, rfl⟩) | (at_builtin; refine wpList_append_own _ rfl _ _ 45 rfl w.heap.size 2 i0 (.int .i64 0) 1 8 Tryz.underlying45 hi hz0 hz1 hz2 rfl (by decide) _ _ _ rfl (World.ownsRow.alloc hown _) ⟨_, 0, none⟩ 1 1 [.int .i64 (k : Int)] rfl rfl (cell_new _ _ _) (by intro u hu; simp at hu; subst hu; rfl) (by unfold maxLen; omega) (by omega) (by simp; omega) ?_; intro v' w3 hown' hgrow _))
      refine ⟨⟨k + 1, R2, by omega, rfl, Z4.out, ?_, ?_⟩, by simp [intOf]; omega⟩
      · rw [Z3.out]
        unfold OwnI
        rw [List.length_append, List.map_append]
        exact hown'
      · exact (hB.alloc (by omega) _).grown hgrow (by simp; omega) (fun q hq => (hown.lt q hq).1)
    · obtain rfl : R = 0 := by omega
      have he := rest_end hR hs
      rw [he] at hown
      go_wp2_with fail
      go_ret
      exact ⟨_, rfl, hown, hB⟩

theorem unc_past {w W w1 : World} {p q : Addr} {a b : Value} (b1 : Below W.heap.size W w1) (h : W.cell? p = some a ∧ W.cell? q = some b ∧ Below w.heap.size w W) (hp : p.block < w.heap.size) (hq : q.block < w.heap.size) :
    w1.cell? p = some a ∧ w1.cell? q = some b ∧ Below w.heap.size w w1 := by
  have hs := h.2.2.size
  exact ⟨by rw [b1.cell (by omega)]; exact h.1, by rw [b1.cell (by omega)]; exact h.2.1, h.2.2.then b1⟩

set_option maxRecDepth 100000 in
set_option maxHeartbeats 4000000 in
theorem uncovered1_any (b1 b2 : Nat) (x u : ByteArray) (w : World) (c1 : Boxed w b1 9 (.string x)) (c2 : Boxed w b2 9 (.string u)) (sx : x.size ≤ maxLen) (su : u.size ≤ maxLen) (hT : TabZ w) (hw0 : 0 < w.heap.size) :
    Calls Tryz.prog 100 #[.pointer (some ⟨b1, 0, none⟩), .pointer (some ⟨b2, 0, none⟩)] w fun e w' => EndI (uncoveredR x u) w.heap.size e w' ∧ Below w.heap.size w w' := by
  have hmo : Tryz.prog.follows .mixedOrders = true := by kernel_rfl
  have k1 := c1.cell
  have k2 := c2.cell
  have c1' : Boxed (w.alloc (.cells #[.string x, .string u] 9)) b1 9 (.string x) := c1.alloc _
  have c2' : Boxed (w.alloc (.cells #[.string x, .string u] 9)) b2 9 (.string u) := c2.alloc _
  have l1' := c1'.lt
  have l2' := c2'.lt
  have hT1 : TabZ (w.alloc (.cells #[.string x, .string u] 9)) := hT.later (Below.new _ _) hw0
  have HT := Lib.hid hT1
  clear hT hT1
  by_cases h : IsW x ∧ IsW u
  · have H := Lib.hid h
    by_cases hu0 : u.size = 0
    · rw [uncoveredR_empty h hu0]
      have hq := nil_yesC hu0
      clear h
      go_enter Tryz.func100, Tryz.ntmps100
      go_wp2_with (first | (go_at_call 85; refine (areWords2_yes _ x u _ (by simp) (by simp [go_sem]) (by simp [go_sem]) H.out.1 H.out.2).mono ?_; rintro e w1 ⟨rfl, a1⟩; have k3 := (boxed_past c2' a1 l2').cell) | (go_at_call 55; first | (with_reducible refine (refuse_yes _ _).mono ?_; rintro e w2 ⟨rfl, rfl⟩) | (with_reducible refine (refuse_no _ _).mono ?_; rintro e w2 ⟨rfl, rfl⟩)))
      exact ⟨rfl, .inr ⟨rfl, rfl⟩, (Below.new _ _).then a1⟩
    · rw [uncoveredR_ok h hu0]
      have hq := nil_noC hu0
      have zx := h.1.size
      have zu := h.2.size
      have hic := fun W => callsIn_wide.1 (inner_covered_in x u W zx zu)
      have HIC := Lib.hid hic
      have hmf : mskF 0 x.size < 18446744073709551616 := by have := mskF_lt (i := 0) (m := x.size) (n := 60) (by omega); omega
      have hmk : msk x u < 18446744073709551616 := by
        have h1 := msk_lt x u
        have h2 : 2 ^ x.size ≤ 2 ^ 60 := Nat.pow_le_pow_right (by omega) zx
        omega
      obtain ⟨s, hs1, hs2, hs3⟩ := bits_andNot_u64 _ _ hmf hmk
      have hsb : ∀ j, s.testBit j = (decide (j < x.size) && !cvB x u j) := fun j => by
        rw [hs3 j, mskF_bit, msk_bit]
        simp
      have hsl : s < 2 ^ x.size := by
        apply Nat.lt_pow_two_of_testBit
        intro j hj
        rw [hsb j]
        have : ¬ j < x.size := by omega
        simp [this]
      have hLL := Lib.hid (lowL_unc hsb)
      have pf1 : ∀ W, Calls Tryz.prog 101 #[.int .i64 0, .int .i64 (x.size : Int)] W fun e w' => e = .returned (.int .u64 ((mskF 0 x.size : Nat) : Int)) ∧ w' = W := fun W => placesFrom_any 0 x.size W (by omega)
      have PF := Lib.hid pf1
      clear h hsb hs3 hic pf1
      go_enter Tryz.func100, Tryz.ntmps100
      go_wp2_with (first | (go_at_call 85; refine (areWords2_yes _ x u _ (by simp) (by simp [go_sem]) (by simp [go_sem]) H.out.1 H.out.2).mono ?_; rintro e w2 ⟨rfl, a1⟩; have c3 := boxed_past c2' a1 l2'; have k3 := c3.cell; have c4 := boxed_past c1' a1 l1'; have k4 := c4.cell) | (go_at_call 55; with_reducible refine (refuse_yes _ _).mono ?_; rintro e w1 ⟨rfl, rfl⟩))
      have B1 : Below w.heap.size w w1 := (Below.new _ _).then a1
      have hT2 := HT.out.later a1 (by simp)
      have l3 := c3.lt
      have l4 := c4.lt
      go_region_held3 (fun w' => w'.cell? ⟨b1, 0, none⟩ = some (.string x) ∧ w'.cell? ⟨b2, 0, none⟩ = some (.string u) ∧ Below w1.heap.size w1 w') (first | assumption | exact ⟨k4, k3, Below.refl _ _⟩ | exact ⟨k4, k3, (Below.refl _ _).drew⟩ | (refine ⟨?_, ?_, ?_⟩ <;> first | assumption | exact Below.drew (by assumption) | go_keep)) (first | (go_at_call 94; refine (HIC.out _).mono ?_; rintro e w5 ⟨rfl, b5⟩; have kp := unc_past b5 (by first | assumption | exact ⟨by assumption, by assumption, by assumption⟩ | exact ⟨k4, k3, Below.refl _ _⟩ | exact ⟨k4, k3, (Below.refl _ _).drew⟩) l4 l3) | (go_at_call 101; refine (PF.out _).mono ?_; rintro e w6 ⟨rfl, rfl⟩))
      all_goals (try go_wp2_with fail)
      all_goals (
        obtain ⟨z0, z1, z2⟩ := (by assumption : (_ ∧ _ ∧ Below w1.heap.size w1 _))
        have y1 : 0 < w1.heap.size := by have := B1.size; omega
        refine (list_any s x.size _ hsl zx (hT2.later z2 y1) (by have := z2.size; omega)).mono ?_
        rintro e w9 ⟨v9, rfl, o9, b9⟩
        go_wp2_with fail
        go_ret
        refine ⟨.inl ⟨_, rfl, ?_, rfl⟩, (B1.then z2).then b9⟩
        rw [← hLL.out]
        exact o9.base (B1.then z2).size)
  · rw [uncoveredR_bad h]
    have H := Lib.hid h
    clear h
    go_enter Tryz.func100, Tryz.ntmps100
    go_wp2_with (first | (go_at_call 85; refine (areWords2_no _ x u _ (by simp) (by simp [go_sem]) (by simp [go_sem]) sx su H.out).mono ?_; rintro e w1 ⟨rfl, a1⟩) | (go_at_call 55; refine (refuse_no _ _).mono ?_; rintro e w2 ⟨rfl, rfl⟩))
    exact ⟨rfl, .inr ⟨rfl, rfl⟩, (Below.new _ _).then a1⟩

set_option maxRecDepth 100000 in
set_option maxHeartbeats 1000000 in
theorem impl_UncoveredPlaces (x u : ByteArray) (w : World) (sx : x.size ≤ maxLen) (su : u.size ≤ maxLen) (hT : TabZ w) (hw0 : 0 < w.heap.size) :
    Calls Tryz.prog 33 #[.string x, .string u] w (RetI (uncoveredR x u).1 (uncoveredR x u).2 w) := by
  have hmf : ∀ (fn : Fn) (first cap : Array Value) (w : World), (Instr.makeFunc fn first cap).run Tryz.prog w = .ok (.func fn first cap) w := fun _ _ _ _ => rfl
  have c1 : Boxed (((w.alloc (.cells #[.string x] 9)).alloc (.cells #[.string u] 9)).alloc (.cells #[.int .i64 0] 2)) w.heap.size 9 (.string x) := ((Boxed.new w _ _).alloc _).alloc _
  have c2 : Boxed (((w.alloc (.cells #[.string x] 9)).alloc (.cells #[.string u] 9)).alloc (.cells #[.int .i64 0] 2)) (w.heap.size + 1) 9 (.string u) := by
    have := Boxed.new (w.alloc (.cells #[.string x] 9)) 9 (.string u)
    rw [World.size_alloc] at this
    exact this.alloc _
  have hB : Below w.heap.size w ((w.alloc (.cells #[.string x] 9)).alloc (.cells #[.string u] 9)) := (Below.new _ _).alloc (by simp) _
  have hT2 : TabZ (((w.alloc (.cells #[.string x] 9)).alloc (.cells #[.string u] 9)).alloc (.cells #[.int .i64 0] 2)) := hT.later (hB.alloc (by simp; omega) _) hw0
  have HT2 := Lib.hid hT2
  clear hT hT2
  go_enter Tryz.func33, Tryz.ntmps33
  go_wp2_with (go_at_call 99; refine (door_ints 100 _ _ (uncoveredR x u) (enters_of Tryz.func100 (by kernel_rfl) rfl) (uncovered1_any _ _ x u _ c1 c2 sx su HT2.out (by simp))).mono ?_; rintro e w1 ⟨v, rfl, o1, b1⟩)
  go_ret2
  exact ⟨_, rfl, o1.base (by simp; omega), hB.trans (b1.mono (by simp; omega))⟩

end Go.Proofs.YtfipbnognjepkaaGreatDoor

/-! ### TabZ -/
namespace Go.Proofs.YtfipbnognjepkaaGreatDoor
set_option linter.unusedVariables false
open Go.ChangeShapes Go.WideShapes Go.ChangeAt Go.RowKit

theorem tab_of_laid {W : World} (h : laidMetH Tryz.prog [("math/bits.deBruijn64tab", Rows.laid_math_bits_deBruijn64tab)] W) : TabZ W ∧ 0 < W.heap.size := by
  rw [MakeChecks.laidMetH_plain _ _ _ (by kernel_rfl)] at h
  obtain ⟨ps, ⟨g, t, cs, fuel, p, q, hg, ht, hv, hd, _, _⟩, _⟩ := h
  obtain rfl := Option.some.inj ((show Tryz.prog.globalNamed "math/bits.deBruijn64tab" = some 0 by kernel_rfl).symm.trans hg)
  obtain rfl := Option.some.inj ((show (Tryz.prog.globals[0]?).map (·.type) = some 169 by kernel_rfl).symm.trans ht)
  obtain ⟨xs, m, _, ex, _, hl, hel⟩ := DataW.trod_array Tryz.underlying169 hd
  have c5 : Tryz.prog.cellsOf 5 = 1 := by kernel_rfl
  have hlen : Lib.deBruijn64tab.length = 64 := by decide
  have hdat : (Rows.laid_math_bits_deBruijn64tab : DataW Unit) = .agg (Lib.deBruijn64tab.map fun (n : Nat) => .lit (.int .u8 (n : Int))) := by kernel_rfl
  have key : ∀ r, r < 64 → W.cell? ⟨0, r, none⟩ = some (.int .u8 (Lib.deBruijn64tab.getD r 0)) := by
    intro r hr
    have hE := hel r hr
    rw [c5, Nat.mul_one, List.getElem?_eq_getElem (by omega)] at hE
    obtain ⟨z, e1, e2, _⟩ := DataW.trod_int Tryz.underlying5 hE
    have e3 : (xs.map (·.1)) = Lib.deBruijn64tab.map fun (n : Nat) => .lit (.int .u8 (n : Int)) := by
      have := (Prod.mk.inj ex).1
      rw [hdat] at this
      exact (DataW.agg.inj this).symm
    have e4 : (xs.map (·.1))[r]? = (Lib.deBruijn64tab.map fun (n : Nat) => (DataW.lit (.int .u8 (n : Int)) : DataW Unit))[r]? := by rw [e3]
    rw [List.getElem?_map, List.getElem?_map, List.getElem?_eq_getElem (by omega : r < xs.length), List.getElem?_eq_getElem (by omega : r < Lib.deBruijn64tab.length), e2] at e4
    have hz : z = (Lib.deBruijn64tab.getD r 0 : Nat) := by
      simp only [Option.map_some, Option.some.injEq, DataW.lit.injEq, Lit.int.injEq, true_and] at e4
      rw [e4, List.getD, List.getElem?_eq_getElem (by omega : r < Lib.deBruijn64tab.length)]; rfl
    rw [World.var?_cell hg hv r, ← hz]
    have : cs.toList[r]? = some (.int .u8 z) := by
      have h0 : ((cs.toList.drop r).take 1)[0]? = some (.int .u8 z) := by rw [e1]; rfl
      simpa using h0
    simpa using this
  refine ⟨key, ?_⟩
  have h0 := key 0 (by omega)
  by_cases e : 0 < W.heap.size
  · exact e
  · dsimp only [World.cell?] at h0
    rw [Array.getElem?_eq_none (by omega)] at h0
    cases h0

end Go.Proofs.YtfipbnognjepkaaGreatDoor
