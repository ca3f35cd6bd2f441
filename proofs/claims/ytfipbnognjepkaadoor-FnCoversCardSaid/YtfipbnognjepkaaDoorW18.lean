/- Covers in the model. -/
import Derived.Test.YtfipbnognjepkaaDoorInts
import Derived.Test.YtfipbnognjepkaaDoorFactor
import Derived.Test.YtfipbnognjepkaaDoorNumbers
import Derived.Test.YtfipbnognjepkaaDoorPlacesPlain
import Derived.Test.YtfipbnognjepkaaDoorCovPlain
import Derived.Deep.LoopGhost
import Derived.Deep.Cut
import Derived.Deep.CutRange
import Derived.Deep.RegionHeld3
import Derived.Test.YtfipbnognjepkaaDoorStrs
import Derived.Test.YtfipbnognjepkaaDoorBbPlain
import Derived.Test.YtfipbnognjepkaaDoorTurn
import Derived.RegionTactic

/-! ### PlacesS -/
namespace Go.Proofs.YtfipbnognjepkaaDoor
set_option linter.unusedVariables false
set_option linter.unusedSimpArgs false
open Go.RowKit

set_option maxRecDepth 100000 in
set_option maxHeartbeats 1000000 in
theorem l01Places_any (x u : ByteArray) (w : World) (hx : x.size ≤ 60) (hu : u.size ≤ 60) :
    Calls Tryd.prog 171 #[.string x, .string u] w fun e w' => ∃ v, e = .returned v ∧ OwnI w' w.heap.size v (posOf x u (List.range (x.size + 1 - u.size))) ∧ Below w.heap.size w w' := by
  obtain ⟨i0, hi, hz0, hz1, hz2⟩ := info_parts infoI64
  go_enter Tryd.func171, Tryd.ntmps171
  go_wp2
  go_loopw [5, 6] (fun v i wr => ∃ k : Nat, k ≤ x.size + 1 - u.size ∧ i = .int .i64 k ∧ wr.ownsRow w.heap.size 2 1 v (posOf x u (List.range k)).length ((posOf x u (List.range k)).map (Value.int .i64)) ∧ Below w.heap.size w wr)
    (fun _ i _ => x.size + 1 - (intOf i).toNat)
  case atStart =>
    refine ⟨0, Nat.zero_le _, rfl, ?_, Below.new _ _⟩
    exact World.ownsRow_lit w #[] 0 (Nat.le_refl _) (by decide) (by simp)
  case round =>
    obtain ⟨k, hk, rfl, hown, hB⟩ := hrel
    have hbz := hB.size
    have hlen := posOf_len x u (List.range k)
    rw [List.length_range] at hlen
    by_cases hp : k + u.size ≤ x.size
    · have hsl := fun W => slice_mid x k u.size hp W
      by_cases he : x.extract k (k + u.size) = u
      · have hsn := posOf_hit x u (List.range k) he
        rw [← List.range_succ] at hsn
        have HS := Lib.hid hsn
        have hq := teq_yes he
        clear hsn he
        generalize posOf x u (List.range k) = L at hown hlen HS
        go_wp2_with (at_builtin; refine wpList_append_own _ rfl _ _ 59 rfl w.heap.size 2 i0 (.int .i64 0) 1 8 Tryd.underlying59 hi hz0 hz1 hz2 rfl (by decide) _ _ _ rfl (hown.alloc _) ⟨_, 0, none⟩ 1 1 [.int .i64 (k : Int)] rfl rfl (cell_new _ _ _) (by intro u hu; simp at hu; subst hu; rfl) (by unfold maxLen; omega) (by omega) (by simp; omega) ?_; intro v' w3 hown' hgrow _)
        go_roundw
        case rel =>
          refine ⟨k + 1, by omega, by go_num, ?_, ?_⟩
          · rw [HS.out, List.length_append, ← map_snoc]; exact hown'
          · exact (hB.alloc hbz _).grown hgrow (by simp; omega) (fun q hq => (hown.lt q hq).1)
        case measure => simp [intOf]; omega
      · have hsn := posOf_miss x u (List.range k) he
        rw [← List.range_succ] at hsn
        have HS := Lib.hid hsn
        have hq := teq_no he
        clear hsn he
        go_wp2
        go_roundw
        case rel => exact ⟨k + 1, by omega, by go_num, by rw [HS.out]; exact hown, hB⟩
        case measure => simp [intOf]; omega
    · have hke : k = x.size + 1 - u.size := by omega
      have HO := Lib.hid hown
      clear hown
      go_wp2
      go_ret
      rw [← hke]
      exact ⟨_, rfl, HO.out, hB⟩

end Go.Proofs.YtfipbnognjepkaaDoor

/-! ### TabB -/
namespace Go.Proofs.YtfipbnognjepkaaDoor
set_option linter.unusedVariables false
set_option linter.unusedSimpArgs false
open Go.RowKit

theorem infoBoolG : (Tryd.prog.info? 4).map (fun i => (i.zero, i.size, i.bytes)) = some (some (.bool false), 1, 1) := by kernel_rfl
def tabO (n : Nat) (o : Nat → Bool) : List Value := (List.range n).map fun p => Value.bool (o p)
theorem tabO_get (n : Nat) (o : Nat → Bool) (p : Nat) (h : p < n) : (tabO n o)[p]? = some (.bool (o p)) := by simp [tabO, h]
theorem tabO_set (n : Nat) (o : Nat → Bool) (p : Nat) (z : Bool) : (tabO n o).set p (.bool z) = tabO n (fun q => if q = p then z else o q) := by
  apply List.ext_getElem
  · simp [tabO]
  · intro i h1 h2
    rw [List.getElem_set]
    by_cases e : p = i
    · subst e; simp [tabO]
    · rw [if_neg e]
      simp [tabO, Ne.symm e]
theorem tabO_zero (n : Nat) : tabO n (fun _ => false) = List.replicate n (.bool false) := by
  unfold tabO
  rw [List.eq_replicate_iff]
  refine ⟨by rw [List.length_map, List.length_range], fun b hb => ?_⟩
  obtain ⟨s, _, rfl⟩ := List.mem_map.1 hb
  rfl
abbrev TabO (W : World) (B G n : Nat) (o : Nat → Bool) : Prop := W.ownsRow B 4 1 (.slice (some ⟨G, 0, none⟩) n n) n (tabO n o)
theorem TabO.at {W : World} {B G n : Nat} {o : Nat → Bool} (h : TabO W B G n o) {p : Nat} (hp : p < n) : W.cell? ⟨G, p, none⟩ = some (.bool (o p)) := by
  rw [h.cellAt p (by omega)]
  exact tabO_get n o p hp
theorem TabO.set {W : World} {B G n : Nat} {o : Nat → Bool} (h : TabO W B G n o) (p : Nat) (z : Bool) : TabO (W.setCell ⟨G, p, none⟩ (.bool z)) B G n (fun q => if q = p then z else o q) := by
  have := (h.stored p (.bool z)).1
  rwa [tabO_set] at this
theorem make_cellsB (n : Nat) (hn : n ≤ 60) (W : World) : (Instr.makeSlice 132 (.int .i64 (n : Int)) (.int .i64 (n : Int))).run Tryd.prog W = .ok (.slice (some ⟨W.heap.size, 0, none⟩) n n) (W.alloc (.cells (madeCells #[.bool false] n) 4)) := by
  obtain ⟨i0, hi, hz0, hz1, hz2⟩ := info_parts infoBoolG
  have := run_make (P := Tryd.prog) W 132 4 i0 (.bool false) Tryd.underlying132 hi hz0 .i64 .i64 n n (by omega) (Int.le_refl _) (by rw [hz2]; omega) (by omega)
  simpa [hz1, Value.cells] using this
theorem made_tabB (n : Nat) (hn : n ≤ 60) (W : World) (B : Nat) (hB : B ≤ W.heap.size) : TabO (W.alloc (.cells (madeCells #[.bool false] n) 4)) B W.heap.size n (fun _ => false) := by
  have h := own_base (World.ownsRow_lit (e := 4) W (madeCells #[.bool false] n) n (Nat.le_refl _) (by unfold maxLen; omega) (by simpa using size_madeCells (#[Value.bool false]) n)) hB
  have e := toList_madeCells_one (.bool false) n
  rw [e, ← tabO_zero] at h
  exact h
theorem OwnI.lkC {w : World} {B : Nat} {v : Value} {L : List Int} (h : OwnI w B v L) : ∃ ad cap, v = .slice ad L.length cap ∧ ∀ j (hj : j < L.length), ∃ g, ad = some ⟨g, 0, none⟩ ∧ g < w.heap.size ∧ j < cap ∧ w.cell? ⟨g, j, none⟩ = some (.int .i64 (L[j]'hj)) := by
  rcases own_forms h with ⟨rfl, h0, _⟩ | ⟨g, cap, rfl, _, hg, hc, _, hk, _⟩
  · exact ⟨_, _, by rw [h0], fun j hj => by omega⟩
  · refine ⟨_, _, rfl, fun j hj => ⟨g, rfl, hg, by omega, ?_⟩⟩
    rw [hk j hj]
    simp [hj]

end Go.Proofs.YtfipbnognjepkaaDoor

/-! ### CovS -/
namespace Go.Proofs.YtfipbnognjepkaaDoor
set_option linter.unusedVariables false
set_option linter.unusedSimpArgs false
open Go.RowKit

theorem nil_yesS {x : ByteArray} (h : x.size = 0) : x.toList.isEmpty = true := by
  have : x = ByteArray.empty := by
    cases x with | mk d => simp only [ByteArray.size] at h; rw [Array.eq_empty_of_size_eq_zero h]; rfl
  rw [this, ByteArray.toList_eq]; rfl
theorem nil_noS {x : ByteArray} (h : ¬ x.size = 0) : x.toList.isEmpty = false := by
  rw [ByteArray.toList_eq, List.isEmpty_eq_false_iff]
  intro e
  apply h
  show x.data.size = 0
  rw [← Array.length_toList, e]
  rfl
set_option maxRecDepth 100000 in
set_option maxHeartbeats 4000000 in
theorem l09Places_any (x u : ByteArray) (w : World) (hx : x.size ≤ 60) (hu : u.size ≤ 60) :
    Calls Tryd.prog 124 #[.string x, .string u] w fun e w' => ∃ G, e = .returned (.slice (some ⟨G, 0, none⟩) x.size x.size) ∧ TabO w' w.heap.size G x.size (cvB x u) ∧ Below w.heap.size w w' := by
  have hmk := make_cellsB x.size hx
  go_enter Tryd.func124, Tryd.ntmps124
  go_upto_region 1 with fail
  go_cut [5, 6] from 9 to 14 (fun s5 s6 wc => ∃ (G M : Nat) (v : Value), s5 = .slice (some ⟨G, 0, none⟩) x.size x.size ∧ s6 = v ∧ TabO wc w.heap.size G x.size (fun _ => false) ∧ OwnI wc M v (posOf x u (List.range (x.size + 1 - u.size))) ∧ v.ownBlock ≠ some G ∧ Below w.heap.size w wc)
  case first =>
    go_region_held3 (fun _ => True) (exact trivial) (first | (go_at_call 171; refine (l01Places_any x u _ hx hu).mono ?_; rintro e w1 ⟨v, rfl, o1, b1⟩))
    all_goals (try go_wp2_with fail)
    · go_meet
      case rel =>
        have t0 := made_tabB x.size hx w.drew w.heap.size (Nat.le_refl _)
        refine ⟨w.heap.size, _, v, rfl, rfl, own_below t0 b1, o1, ?_, ?_⟩
        · intro e
          have h9 := (o1.lt _ e).1
          have h8 : ∀ o, (w.alloc o).drew.heap.size = w.heap.size + 1 := fun o => by simp
          rw [h8] at h9
          omega
        · exact ((Below.refl _ w).drew.alloc (Nat.le_refl _) _).trans (b1.mono (by simp))
    · go_meet
      case rel =>
        have b2 : Below w.heap.size w w1 := (Below.refl _ w).drew.trans b1
        refine ⟨w1.heap.size, _, v, rfl, rfl, made_tabB x.size hx w1 _ b2.size, o1.below (Below.new _ _), ?_, b2.alloc b2.size _⟩
        intro e
        have h9 := (o1.lt _ e).2
        omega
  case rest =>
    obtain ⟨G, M, v, rfl, rfl, T0, o1, hne, B1⟩ := hcut
    have hL := posOf_len60 (x := x) (u := u)
    have hbd := posOf_bound x u (x.size + 1 - u.size)
    have hall := cvPos_all x u
    have hcl := posOf_len x u (List.range (x.size + 1 - u.size))
    rw [List.length_range] at hcl
    generalize posOf x u (List.range (x.size + 1 - u.size)) = L at *
    clear hL
    have HBD := Lib.hid hbd
    have HALL := Lib.hid hall
    clear hbd hall hmk
    obtain ⟨ad, cap, rfl, _⟩ := o1.lkC
    have T0' : TabO wc w.heap.size G x.size (cvPos L u.size 0) := by
      have : cvPos L u.size 0 = fun _ => false := by funext j; exact cvPos_zero _ _ _
      rw [this]; exact T0
    clear T0
    go_wp2_with fail
    go_loopw [7] (fun s7 wr => ∃ i : Nat, i ≤ L.length ∧ s7 = .int .i64 (i : Int) ∧ TabO wr w.heap.size G x.size (cvPos L u.size i) ∧ OwnI wr M (.slice ad L.length cap) L ∧ Below w.heap.size w wr)
      (fun s7 _ => L.length - (intOf s7).toNat)
    case atStart => exact ⟨0, Nat.zero_le _, rfl, T0', o1, B1⟩
    case round =>
      clear T0' o1 B1
      obtain ⟨i, hi, rfl, T1, o1, B1⟩ := hrel
      by_cases hp : i < L.length
      · obtain ⟨ad2, cap2, hv, look⟩ := o1.lkC
        obtain ⟨g, hg1, hg2, hg3, hg4⟩ := look i hp
        cases hv
        subst hg1
        have hb := HBD.out _ (List.getElem_mem hp)
        obtain ⟨z, hz⟩ : ∃ z : Nat, L[i]'hp = (z : Int) := ⟨(L[i]'hp).toNat, by omega⟩
        have hca := Lib.hid (cvPart_all (m := u.size) hp hz)
        rw [hz] at hg4 hb
        have T2 : TabO wr w.heap.size G x.size (cvPart L u.size i z 0) := by
          have : cvPart L u.size i z 0 = cvPos L u.size i := by funext j; exact cvPart_zero _ _ _ _ _
          rw [this]; exact T1
        clear T1 look
        have hii : (i : Int) < (L.length : Int) := by omega
        have hi0 : (0 : Int) ≤ (i : Int) := by omega
        go_wp2_with fail
        go_loopw [8] (fun s8 wr2 => ∃ j : Nat, j ≤ u.size ∧ s8 = .int .i64 (j : Int) ∧ TabO wr2 w.heap.size G x.size (cvPart L u.size i z j) ∧ OwnI wr2 M (.slice (some ⟨g, 0, none⟩) L.length cap) L ∧ Below w.heap.size w wr2)
          (fun s8 _ => u.size - (intOf s8).toNat)
        case atStart => exact ⟨0, Nat.zero_le _, rfl, T2, o1, B1⟩
        case round =>
          clear T2 o1 B1 hg4
          obtain ⟨j, hj, rfl, T2, o1, B1⟩ := hrel
          by_cases hq : j < u.size
          · obtain ⟨ad2, cap2, hv, look⟩ := o1.lkC
            obtain ⟨g2, hg1, hg2, hg3, hg4⟩ := look i hp
            cases hv
            cases hg1
            rw [hz] at hg4
            obtain ⟨q, hzq⟩ : ∃ q : Nat, z + j = q := ⟨_, rfl⟩
            have ho := T2.set (z + j) true
            rw [cvPart_succ, hzq] at ho
            have e1 : ((z : Int) + (j : Int)) = (q : Int) := by omega
            have hqx : q < x.size := by omega
            have hfz := T2.frozenAt q
            have hGa := T2.at hqx
            have g1 : wr.grownBy (wr.setCell ⟨G, q, none⟩ (.bool true)) (some G) := grown_set (grown_refl _ _) _ _
            have o2 := World.ownsRow.kept o1 g1 (.inr (by simpa [Value.ownBlock] using hne))
            have B2 : Below w.heap.size w (wr.setCell ⟨G, q, none⟩ (.bool true)) := B1.setCell (p := ⟨G, q, none⟩) (T2.lt G rfl).1 _
            have e2 : (q : Int) < (x.size : Int) := by omega
            have e3 : (0 : Int) ≤ (q : Int) := by omega
            clear T2 o1 B1
            have HO := Lib.hid ho
            have HP := Lib.hid o2
            clear ho o2
            go_wp2_with fail
            go_roundw
            case rel => exact ⟨j + 1, by omega, by go_num, HO.out, HP.out, B2⟩
            case measure => simp [intOf]; omega
          · obtain rfl : j = u.size := by omega
            have hq2 : ¬ (u.size : Int) < (u.size : Int) := by omega
            go_wp2_with fail
            go_roundw
            case rel => exact ⟨i + 1, by omega, by go_num, by rw [← hca.out]; exact T2, o1, B1⟩
            case measure => simp [intOf]; omega
      · obtain rfl : i = L.length := by omega
        have hii : ¬ (L.length : Int) < (L.length : Int) := by omega
        go_wp2_with fail
        go_ret
        refine ⟨G, rfl, ?_, B1⟩
        have : cvPos L u.size L.length = cvB x u := by funext j; exact HALL.out j
        rw [← this]; exact T1

set_option maxRecDepth 100000 in
set_option maxHeartbeats 1000000 in
theorem l09Count_any (B G n : Nat) (f : Nat → Bool) (w : World) (h : TabO w B G n f) (hn : n ≤ 60) :
    Calls Tryd.prog 170 #[.slice (some ⟨G, 0, none⟩) n n] w fun e w' => e = .returned (.int .i64 ((cnB f n : Nat) : Int)) ∧ w' = w := by
  have H := Lib.hid h
  have hG := (h.lt G rfl).2
  clear h
  go_enter Tryd.func170, Tryd.ntmps170
  go_wp2_with fail
  go_loopw [3, 4] (fun s3 s4 wr => wr = w ∧ ∃ k : Nat, k ≤ n ∧ s4 = .int .i64 (k : Int) ∧ s3 = .int .i64 ((cnB f k : Nat) : Int))
    (fun _ s4 _ => n - (intOf s4).toNat)
  case atStart => exact ⟨rfl, 0, Nat.zero_le _, rfl, rfl⟩
  case round =>
    obtain ⟨rfl, k, hk, rfl, rfl⟩ := hrel
    have hle := cnB_le f k
    by_cases hp : k < n
    · have hkn : (k : Int) < (n : Int) := by omega
      have hk0 : (0 : Int) ≤ (k : Int) := by omega
      have hc := H.out.at hp
      have hs : cnB f (k + 1) = cnB f k + if f k then 1 else 0 := rfl
      generalize cnB f k = q at *
      cases hf : f k with
      | false =>
        rw [hf] at hc hs
        go_wp2_with fail
        go_roundw
        case rel => exact ⟨trivial, k + 1, by omega, by go_num, by rw [hs]; rfl⟩
        case measure => simp [intOf]; omega
      | true =>
        rw [hf] at hc hs
        go_wp2_with fail
        go_roundw
        case rel => exact ⟨trivial, k + 1, by omega, by go_num, by rw [hs]; go_num⟩
        case measure => simp [intOf]; omega
    · obtain rfl : k = n := by omega
      have hkn : ¬ (k : Int) < (k : Int) := by omega
      go_wp2_with fail
      go_ret
      exact ⟨rfl, rfl⟩

set_option maxHeartbeats 1000000 in
theorem l09Cover_any (x u : ByteArray) (w : World) (hx : x.size ≤ 60) (hu : u.size ≤ 60) :
    Calls Tryd.prog 123 #[.string x, .string u] w fun e w' => e = .returned (.bool (cvAll x u)) ∧ Below w.heap.size w w' := by
  have hd : (((cnB (cvB x u) x.size : Nat) : Int) == (x.size : Int)) = cvAll x u := by
    rw [cvAll, ← cnB_dec, Bool.eq_iff_iff, beq_iff_eq, decide_eq_true_eq]
    omega
  have hle := cnB_le (cvB x u) x.size
  go_enter Tryd.func123, Tryd.ntmps123
  go_wp2_with (first | (go_at_call 124; refine (l09Places_any x u _ hx hu).mono ?_; rintro e w1 ⟨G, rfl, t1, b1⟩) | (go_at_call 170; refine (l09Count_any _ _ _ _ _ t1 hx).mono ?_; rintro e w2 ⟨rfl, rfl⟩))
  go_ret
  exact ⟨rfl, b1⟩

def codeR (x : ByteArray) (xs : List ByteArray) : Int := if ¬ IsW x then 1 else if ¬ (∀ y ∈ xs, IsW y) then 1 else if ∃ y ∈ xs, y.size = 0 then 2 else 0
set_option maxRecDepth 100000 in
set_option maxHeartbeats 1000000 in
theorem l09Code_any (b : Nat) (x : ByteArray) (xs : List ByteArray) (w : World) (hb : b < w.heap.size) (hn : xs.length ≤ 9) (sx : x.size ≤ maxLen)
    (hc : ∀ j (h : j < xs.length), w.cell? ⟨b, j, none⟩ = some (.string (xs[j]'h))) (hs : ∀ j (h : j < xs.length), (xs[j]'h).size ≤ maxLen) :
    Calls Tryd.prog 120 #[.string x, .slice (some ⟨b, 0, none⟩) xs.length xs.length] w fun e w' => e = .returned (.int .i64 (codeR x xs)) ∧ Below w.heap.size w w' := by
  have HC := Lib.hid hc
  have HS := Lib.hid hs
  clear hc hs
  by_cases hx : IsW x
  · have HX := Lib.hid hx
    clear hx
    go_enter Tryd.func120, Tryd.ntmps120
    go_wp2_with (go_at_call 57; refine (l01Is_yes x _ HX.out).mono ?_; rintro e w1 ⟨rfl, b1⟩)
    go_loopw [5] (fun s5 wr => ∃ k : Nat, k ≤ xs.length ∧ s5 = .int .i64 (k : Int) ∧ Hid (∀ j (h : j < xs.length), j < k → IsW (xs[j]'h)) ∧ Below w.heap.size w wr)
      (fun s5 _ => xs.length - (intOf s5).toNat)
    case atStart => exact ⟨0, Nat.zero_le _, rfl, Lib.hid (fun j _ h => by omega), b1⟩
    case round =>
      obtain ⟨k, hk, rfl, hi, hB⟩ := hrel
      by_cases hp : k < xs.length
      · have hkn : (k : Int) < (xs.length : Int) := by omega
        have hk0 : (0 : Int) ≤ (k : Int) := by omega
        have kc : wr.cell? ⟨b, k, none⟩ = some (.string (xs[k]'hp)) := by rw [(bcell hB).1 b k hb]; exact HC.out k hp
        have sy := HS.out k hp
        by_cases hy : IsW (xs[k]'hp)
        · have HY := Lib.hid hy
          have hi2 : Hid (∀ j (h : j < xs.length), j < k + 1 → IsW (xs[j]'h)) := Lib.hid (fun j h hj => by
            by_cases e : j = k
            · subst e; exact hy
            · exact hi.out j h (by omega))
          clear hy
          go_wp2_with (go_at_call 57; refine (l01Is_yes _ _ HY.out).mono ?_; rintro e w2 ⟨rfl, b2⟩)
          go_roundw
          case rel => exact ⟨k + 1, by omega, by go_num, hi2, hB.then b2⟩
          case measure => simp [intOf]; omega
        · have HY := Lib.hid hy
          have e1 : codeR x xs = 1 := by
            unfold codeR; rw [if_neg (not_not_intro HX.out), if_pos (fun e => hy (e _ (List.getElem_mem hp)))]
          clear hy
          go_wp2_with (go_at_call 57; refine (l01Is_no _ _ sy HY.out).mono ?_; rintro e w2 ⟨rfl, b2⟩)
          go_ret
          exact ⟨by first | rfl | (rw [e1]; rfl), hB.then b2⟩
      · obtain rfl : k = xs.length := by omega
        have hkn : ¬ (xs.length : Int) < (xs.length : Int) := by omega
        have hall : ∀ y ∈ xs, IsW y := fun y hy => by
          obtain ⟨j, hj, rfl⟩ := List.getElem_of_mem hy
          exact hi.out j hj hj
        have HALL := Lib.hid hall
        clear hall
        go_wp2_with fail
        go_loopw [6] (fun s6 wr => ∃ k : Nat, k ≤ xs.length ∧ s6 = .int .i64 (k : Int) ∧ Hid (∀ j (h : j < xs.length), j < k → ¬ (xs[j]'h).size = 0) ∧ Below w.heap.size w wr)
          (fun s6 _ => xs.length - (intOf s6).toNat)
        case atStart => exact ⟨0, Nat.zero_le _, rfl, Lib.hid (fun j _ h => by omega), hB⟩
        case round =>
          clear hB hi
          obtain ⟨k, hk, rfl, hi, hB⟩ := hrel
          by_cases hp : k < xs.length
          · have hkn : (k : Int) < (xs.length : Int) := by omega
            have hk0 : (0 : Int) ≤ (k : Int) := by omega
            have kc : wr.cell? ⟨b, k, none⟩ = some (.string (xs[k]'hp)) := by rw [(bcell hB).1 b k hb]; exact HC.out k hp
            by_cases hy : (xs[k]'hp).size = 0
            · have hq := nil_yesS hy
              have e1 : codeR x xs = 2 := by
                unfold codeR; rw [if_neg (not_not_intro HX.out), if_neg (not_not_intro HALL.out), if_pos ⟨_, List.getElem_mem hp, hy⟩]
              clear hy
              go_wp2_with fail
              go_ret
              exact ⟨by first | rfl | (rw [e1]; rfl), hB⟩
            · have hq := nil_noS hy
              have hi2 : Hid (∀ j (h : j < xs.length), j < k + 1 → ¬ (xs[j]'h).size = 0) := Lib.hid (fun j h hj => by
                by_cases e : j = k
                · subst e; exact hy
                · exact hi.out j h (by omega))
              clear hy
              go_wp2_with fail
              go_roundw
              case rel => exact ⟨k + 1, by omega, by go_num, hi2, hB⟩
              case measure => simp [intOf]; omega
          · obtain rfl : k = xs.length := by omega
            have e1 : codeR x xs = 0 := by
              unfold codeR
              rw [if_neg (not_not_intro HX.out), if_neg (not_not_intro HALL.out), if_neg]
              rintro ⟨y, hy, h0⟩
              obtain ⟨j, hj, rfl⟩ := List.getElem_of_mem hy
              exact hi.out j hj hj h0
            have hkn : ¬ (xs.length : Int) < (xs.length : Int) := by omega
            go_wp2_with fail
            go_ret
            exact ⟨by first | rfl | (rw [e1]; rfl), hB⟩
  · have HX := Lib.hid hx
    have e1 : codeR x xs = 1 := by unfold codeR; rw [if_pos hx]
    clear hx
    go_enter Tryd.func120, Tryd.ntmps120
    go_wp2_with (go_at_call 57; refine (l01Is_no x _ sx HX.out).mono ?_; rintro e w1 ⟨rfl, b1⟩)
    go_ret
    exact ⟨by first | rfl | (rw [e1]; rfl), b1⟩

theorem codeR1_bad {x u : ByteArray} (h : ¬ (IsW x ∧ IsW u)) : codeR x [u] = 1 := by
  unfold codeR
  by_cases hx : IsW x
  · rw [if_neg (not_not_intro hx), if_pos (fun e => h ⟨hx, e u (by simp)⟩)]
  · rw [if_pos hx]
theorem codeR1_empty {x u : ByteArray} (h : IsW x ∧ IsW u) (k : u.size = 0) : codeR x [u] = 2 := by
  unfold codeR
  rw [if_neg (not_not_intro h.1), if_neg (not_not_intro (fun y hy => by rw [List.mem_singleton.1 hy]; exact h.2)), if_pos ⟨u, by simp, k⟩]
theorem codeR1_ok {x u : ByteArray} (h : IsW x ∧ IsW u) (k : ¬ u.size = 0) : codeR x [u] = 0 := by
  unfold codeR
  rw [if_neg (not_not_intro h.1), if_neg (not_not_intro (fun y hy => by rw [List.mem_singleton.1 hy]; exact h.2)), if_neg]
  rintro ⟨y, hy, h0⟩
  rw [List.mem_singleton.1 hy] at h0
  exact k h0
theorem l09Code1_any (x u : ByteArray) (w : World) (sx : x.size ≤ maxLen) (su : u.size ≤ maxLen) (b : Nat) (hb : b < w.heap.size) (hc : w.cell? ⟨b, 0, none⟩ = some (.string u)) :
    Calls Tryd.prog 120 #[.string x, .slice (some ⟨b, 0, none⟩) 1 1] w fun e w' => e = .returned (.int .i64 (codeR x [u])) ∧ Below w.heap.size w w' :=
  l09Code_any b x [u] w hb (by simp) sx (fun j h => by match j, h with | 0, _ => exact hc) (fun j h => by match j, h with | 0, _ => exact su)
theorem codeR2_bad {x u v : ByteArray} (h : ¬ (IsW x ∧ IsW u ∧ IsW v)) : codeR x [u, v] = 1 := by
  unfold codeR
  by_cases hx : IsW x
  · rw [if_neg (not_not_intro hx), if_pos (fun e => h ⟨hx, e u (by simp), e v (by simp)⟩)]
  · rw [if_pos hx]
theorem codeR2_empty {x u v : ByteArray} (h : IsW x ∧ IsW u ∧ IsW v) (k : u.size = 0 ∨ v.size = 0) : codeR x [u, v] = 2 := by
  unfold codeR
  rw [if_neg (not_not_intro h.1), if_neg (not_not_intro (fun y hy => by rcases List.mem_cons.1 hy with e | e; · rw [e]; exact h.2.1
                                                                        · rw [List.mem_singleton.1 e]; exact h.2.2)), if_pos]
  rcases k with k | k
  · exact ⟨u, by simp, k⟩
  · exact ⟨v, by simp, k⟩
theorem codeR2_ok {x u v : ByteArray} (h : IsW x ∧ IsW u ∧ IsW v) (k : ¬ (u.size = 0 ∨ v.size = 0)) : codeR x [u, v] = 0 := by
  unfold codeR
  rw [if_neg (not_not_intro h.1), if_neg (not_not_intro (fun y hy => by rcases List.mem_cons.1 hy with e | e; · rw [e]; exact h.2.1
                                                                        · rw [List.mem_singleton.1 e]; exact h.2.2)), if_neg]
  rintro ⟨y, hy, h0⟩
  rcases List.mem_cons.1 hy with e | e
  · rw [e] at h0; exact k (.inl h0)
  · rw [List.mem_singleton.1 e] at h0; exact k (.inr h0)
theorem l09Code2_any (x u v : ByteArray) (w : World) (sx : x.size ≤ maxLen) (su : u.size ≤ maxLen) (sv : v.size ≤ maxLen) (b : Nat) (hb : b < w.heap.size) (hc : w.cell? ⟨b, 0, none⟩ = some (.string u)) (hc1 : w.cell? ⟨b, 1, none⟩ = some (.string v)) :
    Calls Tryd.prog 120 #[.string x, .slice (some ⟨b, 0, none⟩) 2 2] w fun e w' => e = .returned (.int .i64 (codeR x [u, v])) ∧ Below w.heap.size w w' :=
  l09Code_any b x [u, v] w hb (by simp) sx (fun j h => by match j, h with | 0, _ => exact hc | 1, _ => exact hc1) (fun j h => by match j, h with | 0, _ => exact su | 1, _ => exact sv)

set_option maxRecDepth 100000 in
theorem spec_IsCover (x u : ByteArray) (w : World) (sx : x.size ≤ maxLen) (su : u.size ≤ maxLen) :
    Calls Tryd.prog 54 #[.string x, .string u] w fun e w' => e = .returned (.tuple #[.bool (isCoverR x u).1, .int .i64 (isCoverR x u).2]) ∧ Below w.heap.size w w' := by
  by_cases h : IsW x ∧ IsW u
  · by_cases k : u.size = 0
    · have e1 := codeR1_empty h k
      rw [isCoverR_empty h k]
      have H := Lib.hid h
      clear h
      go_enter Tryd.func54, Tryd.ntmps54
      go_wp2_with (go_at_call 120; refine (l09Code1_any x u _ sx su _ (by simp) (by simp [go_sem])).mono ?_; rintro e w1 ⟨rfl, b1⟩)
      go_ret2
      exact ⟨rfl, (Below.new _ _).then b1⟩
    · have e1 := codeR1_ok h k
      rw [isCoverR_ok h k]
      have zx := h.1.size
      have zu := h.2.size
      have H := Lib.hid h
      clear h
      go_enter Tryd.func54, Tryd.ntmps54
      go_wp2_with (first | (go_at_call 120; refine (l09Code1_any x u _ sx su _ (by simp) (by simp [go_sem])).mono ?_; rintro e w1 ⟨rfl, b1⟩) | (go_at_call 123; refine (l09Cover_any x u _ zx zu).mono ?_; rintro e w2 ⟨rfl, b2⟩))
      go_ret2
      exact ⟨rfl, ((Below.new _ _).then b1).then b2⟩
  · have e1 := codeR1_bad h
    rw [isCoverR_bad h]
    have H := Lib.hid h
    clear h
    go_enter Tryd.func54, Tryd.ntmps54
    go_wp2_with (go_at_call 120; refine (l09Code1_any x u _ sx su _ (by simp) (by simp [go_sem])).mono ?_; rintro e w1 ⟨rfl, b1⟩)
    go_ret2
    exact ⟨rfl, (Below.new _ _).then b1⟩

end Go.Proofs.YtfipbnognjepkaaDoor

/-! ### CvS -/
namespace Go.Proofs.YtfipbnognjepkaaDoor
set_option linter.unusedVariables false
set_option linter.unusedSimpArgs false
open Go.RowKit

theorem slice_begS (x : ByteArray) (k : Nat) (h : k < x.size) (W : World) :
    (Instr.slice 9 (.string x) none (some (.int .i64 ((k : Int) + 1))) none).run Tryd.prog W = .ok (.string (beg x k)) W := by
  have := run_slice_string_h (P := Tryd.prog) W 9 x Tryd.underlying9 .i64 ((k : Int) + 1) (by omega) (by omega)
  have e : ((k : Int) + 1).toNat = k + 1 := by omega
  rw [e] at this
  exact this
theorem ownS_put {w : World} {B : Nat} {v : Value} {L : List ByteArray} {s : ByteArray} (h : w.ownsRow B 9 1 v (L.length + 1) (L.map Value.string ++ [Value.string s])) : OwnS w B v (L ++ [s]) := by
  unfold OwnS
  rw [List.length_append, List.map_append]
  exact h
theorem ownS_lk {w : World} {B : Nat} {v : Value} {L : List ByteArray} (h : OwnS w B v L) : ∃ ad cap, v = .slice ad L.length cap := by
  rcases own_forms h with ⟨rfl, h0, _⟩ | ⟨g, cap, rfl, _⟩
  · exact ⟨_, _, by rw [h0]⟩
  · exact ⟨_, _, rfl⟩

set_option maxRecDepth 100000 in
set_option maxHeartbeats 2000000 in
theorem l09Covers_any (x : ByteArray) (w : World) (hx : x.size ≤ 60) :
    Calls Tryd.prog 98 #[.string x] w fun e w' => ∃ v, e = .returned v ∧ OwnS w' w.heap.size v (cvs x) ∧ Below w.heap.size w w' := by
  obtain ⟨i0, hi, hz0, hz1, hz2⟩ := info_parts infoStr
  go_enter Tryd.func98, Tryd.ntmps98
  go_wp2
  go_loopw [3, 4] (fun v s4 wr => ∃ k : Nat, k ≤ x.size ∧ s4 = .int .i64 ((k : Int) + 1) ∧ OwnS wr w.heap.size v (cvsL x k) ∧ Below w.heap.size w wr)
    (fun _ s4 _ => x.size + 2 - (intOf s4).toNat)
  case atStart => exact ⟨0, Nat.zero_le _, rfl, own_base (World.ownsRow_lit w #[] 0 (Nat.le_refl _) (by decide) (by simp)) (Nat.le_refl _), Below.new _ _⟩
  case round =>
    obtain ⟨k, hk, rfl, hown, hB⟩ := hrel
    have hlen := cvsL_len x k
    have hbz := hB.size
    by_cases hp : k < x.size
    · have hsl := slice_begS x k hp
      have hbs : (beg x k).size ≤ 60 := by rw [beg_size hp]; omega
      have hc := fun W => l09Cover_any x (beg x k) W hx hbs
      have hkn : ((k : Int) + 1) ≤ (x.size : Int) := by omega
      cases hcv : cvAll x (beg x k) with
      | true =>
        have HS := Lib.hid (cvsL_hit hcv)
        rw [hcv] at hc
        have HC := Lib.hid hc
        clear hc hcv
        generalize cvsL x k = L at *
        generalize beg x k = z at *
        go_wp2_with (first | (go_at_call 123; refine (HC.out _).mono ?_; rintro e w1 ⟨rfl, b1⟩; have hown1 : OwnS w1 w.heap.size u3 L := own_below hown b1; have b1z := b1.size) | (at_builtin; refine wpList_append_own _ rfl _ _ 22 rfl w.heap.size 9 i0 (.string ⟨#[]⟩) 1 16 Tryd.underlying22 hi hz0 hz1 hz2 rfl (by decide) _ _ _ rfl (World.ownsRow.alloc hown1 _) ⟨_, 0, none⟩ 1 1 [.string z] rfl rfl (cell_new _ _ _) (by intro u hu; simp at hu; subst hu; rfl) (by unfold maxLen; omega) (by omega) (by simp; omega) ?_; intro v' w3 hown' hgrow _))
        go_roundw
        case rel =>
          refine ⟨k + 1, by omega, by go_num, by rw [HS.out]; exact ownS_put hown', ?_⟩
          exact ((hB.then b1).alloc (by omega) _).grown hgrow (by simp; omega) (fun q hq => (hown1.lt q hq).1)
        case measure => simp [intOf]; omega
      | false =>
        have HS := Lib.hid (cvsL_miss hcv)
        rw [hcv] at hc
        have HC := Lib.hid hc
        clear hc hcv
        generalize beg x k = z at *
        go_wp2_with (go_at_call 123; refine (HC.out _).mono ?_; rintro e w1 ⟨rfl, b1⟩)
        go_roundw
        case rel => exact ⟨k + 1, by omega, by go_num, by rw [HS.out]; exact own_below hown b1, hB.then b1⟩
        case measure => simp [intOf]; omega
    · obtain rfl : k = x.size := by omega
      have hkn : ¬ ((x.size : Int) + 1) ≤ (x.size : Int) := by omega
      go_wp2_with fail
      go_ret
      exact ⟨_, rfl, hown, hB⟩

set_option maxRecDepth 100000 in
theorem spec_CoversOf (x : ByteArray) (w : World) (sx : x.size ≤ maxLen) :
    Calls Tryd.prog 36 #[.string x] w (RetS (coversR x).1 (coversR x).2 w) := by
  by_cases h : IsW x
  · rw [coversR_ok h]
    have h1 := h.size
    have H := Lib.hid h
    clear h
    go_enter Tryd.func36, Tryd.ntmps36
    go_wp2_with (first | (go_at_call 57; refine (l01Is_yes x _ H.out).mono ?_; rintro e w1 ⟨rfl, a1⟩) | (go_at_call 98; refine (l09Covers_any x _ h1).mono ?_; rintro e w2 ⟨v, rfl, o2, a2⟩))
    go_ret2
    exact ⟨_, rfl, o2.base a1.size, a1.then a2⟩
  · rw [coversR_bad h]
    have H := Lib.hid h
    clear h
    go_enter Tryd.func36, Tryd.ntmps36
    go_wp2_with (go_at_call 57; refine (l01Is_no x _ sx H.out).mono ?_; rintro e w1 ⟨rfl, a1⟩)
    go_ret2
    exact ⟨_, rfl, OwnS.nil _ _, a1⟩

set_option maxRecDepth 100000 in
theorem spec_LeastCover (x : ByteArray) (w : World) (sx : x.size ≤ maxLen) :
    Calls Tryd.prog 38 #[.string x] w fun e w' => e = .returned (.tuple #[.string (leastCoverR x).1, .int .i64 (leastCoverR x).2]) ∧ Below w.heap.size w w' := by
  by_cases h : IsW x
  · by_cases h0 : x.size = 0
    · rw [leastCoverR_empty h h0]
      have hq := nil_yesS h0
      have H := Lib.hid h
      clear h
      go_enter Tryd.func38, Tryd.ntmps38
      go_wp2_with (go_at_call 57; refine (l01Is_yes x _ H.out).mono ?_; rintro e w1 ⟨rfl, a1⟩)
      go_ret2
      exact ⟨rfl, a1⟩
    · rw [leastCoverR_ok h h0]
      have hq := nil_noS h0
      have h1 := h.size
      have H := Lib.hid h
      have hp := cvs_pos (x := x) (by omega)
      have HG := Lib.hid (lc_get (x := x) (by omega))
      clear h
      go_enter Tryd.func38, Tryd.ntmps38
      go_wp2_with (first | (go_at_call 57; refine (l01Is_yes x _ H.out).mono ?_; rintro e w1 ⟨rfl, a1⟩) | (go_at_call 98; refine (l09Covers_any x _ h1).mono ?_; rintro e w2 ⟨v, rfl, o2, a2⟩; obtain ⟨g4, c4, rfl, z1, z2, z3, z4, z5, z6⟩ := o2.row hp; have y1 := z5 0 hp; rw [HG.out] at y1; clear z5; have y2 : (0 : Int) < ((cvs x).length : Int) := (by omega)))
      go_ret2
      exact ⟨rfl, a1.then a2⟩
  · rw [leastCoverR_bad h]
    have H := Lib.hid h
    clear h
    go_enter Tryd.func38, Tryd.ntmps38
    go_wp2_with (go_at_call 57; refine (l01Is_no x _ sx H.out).mono ?_; rintro e w1 ⟨rfl, a1⟩)
    go_ret2
    exact ⟨rfl, a1⟩

set_option maxRecDepth 100000 in
theorem spec_IsSuperprimitive (x : ByteArray) (w : World) (sx : x.size ≤ maxLen) :
    Calls Tryd.prog 42 #[.string x] w fun e w' => e = .returned (.tuple #[.bool (superR x).1, .int .i64 (superR x).2]) ∧ Below w.heap.size w w' := by
  by_cases h : IsW x
  · rw [superR_ok h]
    have h1 := h.size
    have H := Lib.hid h
    have hl := cvs_len x
    have hd : (((cvs x).length : Int) == 1) = decide ((cvs x).length = 1) := by rw [Bool.eq_iff_iff, beq_iff_eq, decide_eq_true_eq]; omega
    clear h
    go_enter Tryd.func42, Tryd.ntmps42
    go_wp2_with (first | (go_at_call 57; refine (l01Is_yes x _ H.out).mono ?_; rintro e w1 ⟨rfl, a1⟩) | (go_at_call 98; refine (l09Covers_any x _ h1).mono ?_; rintro e w2 ⟨v, rfl, o2, a2⟩; obtain ⟨ad4, c4, rfl⟩ := ownS_lk o2))
    go_ret2
    exact ⟨by first | rfl | rw [← hd], a1.then a2⟩
  · rw [superR_bad h]
    have H := Lib.hid h
    clear h
    go_enter Tryd.func42, Tryd.ntmps42
    go_wp2_with (go_at_call 57; refine (l01Is_no x _ sx H.out).mono ?_; rintro e w1 ⟨rfl, a1⟩)
    go_ret2
    exact ⟨rfl, a1⟩

end Go.Proofs.YtfipbnognjepkaaDoor

/-! ### CvLS -/
namespace Go.Proofs.YtfipbnognjepkaaDoor
set_option linter.unusedVariables false
set_option linter.unusedSimpArgs false
open Go.RowKit

theorem ints_snocS (L : List Int) (z : Int) : L.map (Value.int .i64) ++ [Value.int .i64 z] = (L ++ [z]).map (Value.int .i64) := by rw [List.map_append]; rfl
set_option maxRecDepth 100000 in
set_option maxHeartbeats 2000000 in
theorem spec_CoverLengths (x : ByteArray) (w : World) (sx : x.size ≤ maxLen) :
    Calls Tryd.prog 40 #[.string x] w (RetI (coverLengthsR x).1 (coverLengthsR x).2 w) := by
  obtain ⟨i0, hi, hz0, hz1, hz2⟩ := info_parts infoI64
  by_cases h : IsW x
  · rw [coverLengthsR_ok h]
    have h1 := h.size
    have H := Lib.hid h
    clear h
    go_enter Tryd.func40, Tryd.ntmps40
    go_wp2_with (go_at_call 57; refine (l01Is_yes x _ H.out).mono ?_; rintro e w1 ⟨rfl, a1⟩)
    go_loopw [4, 5] (fun v s5 wr => ∃ k : Nat, k ≤ x.size ∧ s5 = .int .i64 ((k : Int) + 1) ∧ wr.ownsRow w1.heap.size 2 1 v k ((clsL x k).map (Value.int .i64)) ∧ Below w1.heap.size w1 wr)
      (fun _ s5 _ => x.size + 2 - (intOf s5).toNat)
    case atStart => exact ⟨0, Nat.zero_le _, rfl, own_base (World.ownsRow_lit w1 #[] 0 (Nat.le_refl _) (by decide) (by simp)) (Nat.le_refl _), Below.new _ _⟩
    case round =>
      obtain ⟨k, hk, rfl, hown, hB⟩ := hrel
      have hbz := hB.size
      by_cases hp : k < x.size
      · have HS := Lib.hid (clsL_succ x k)
        have hsl := slice_begS x k hp
        have hbs := beg_size hp
        have hb60 : (beg x k).size ≤ 60 := by omega
        have hcp := cvs_pos (x := beg x k) (by omega)
        have HG : Hid (∀ h : 0 < (cvs (beg x k)).length, (cvs (beg x k))[0]'h = lc (beg x k)) := Lib.hid (fun h => head_get h)
        have hll := lc_le (x := beg x k)
        have hkn : ((k : Int) + 1) ≤ (x.size : Int) := by omega
        generalize beg x k = z at *
        go_wp2_with (first | (go_at_call 98; refine (l09Covers_any z _ hb60).mono ?_; rintro e w3 ⟨v3, rfl, o3, a3⟩; obtain ⟨g4, c4, rfl, z1, z2, z3, z4, z5, z6⟩ := o3.row hcp; have y1 := z5 0 hcp; rw [HG.out hcp] at y1; clear z5; have y2 : (0 : Int) < ((cvs z).length : Int) := (by omega); have hown3 : w3.ownsRow w1.heap.size 2 1 u4 k ((clsL x k).map (Value.int .i64)) := own_below hown a3; have a3z := a3.size) | (at_builtin; refine wpList_append_own _ rfl _ _ 59 rfl w1.heap.size 2 i0 (.int .i64 0) 1 8 Tryd.underlying59 hi hz0 hz1 hz2 rfl (by decide) _ _ _ rfl (hown3.alloc _) ⟨_, 0, none⟩ 1 1 [.int .i64 ((lc z).size : Int)] rfl rfl (cell_new _ _ _) (by intro u hu; simp at hu; subst hu; rfl) (by unfold maxLen; omega) (by omega) (by simp; omega) ?_; intro v' w4 hown' hgrow _))
        go_roundw
        case rel =>
          refine ⟨k + 1, by omega, by go_num, by rw [HS.out, ← ints_snocS]; exact hown', ?_⟩
          exact ((hB.then a3).alloc (by omega) _).grown hgrow (by simp; omega) (fun q hq => (hown3.lt q hq).1)
        case measure => simp [intOf]; omega
      · obtain rfl : k = x.size := by omega
        have hkn : ¬ ((x.size : Int) + 1) ≤ (x.size : Int) := by omega
        have ho : OwnI wr w.heap.size u4 (clsL x x.size) := by unfold OwnI; rw [clsL_len]; exact own_base hown a1.size
        go_wp2_with fail
        go_ret2
        exact ⟨_, rfl, ho, a1.then hB⟩
  · rw [coverLengthsR_bad h]
    have H := Lib.hid h
    clear h
    go_enter Tryd.func40, Tryd.ntmps40
    go_wp2_with (go_at_call 57; refine (l01Is_no x _ sx H.out).mono ?_; rintro e w1 ⟨rfl, a1⟩)
    go_ret2
    exact ⟨_, rfl, OwnI.nil _ _, a1⟩

end Go.Proofs.YtfipbnognjepkaaDoor

/-! ### UncS -/
namespace Go.Proofs.YtfipbnognjepkaaDoor
set_option linter.unusedVariables false
set_option linter.unusedSimpArgs false
open Go.RowKit

theorem tab_past {W W' : World} {B G n : Nat} {o : Nat → Bool} {r : Option Nat} (h : TabO W B G n o) (g : W.grownBy W' r) (hr : some G ≠ r) : TabO W' B G n o := World.ownsRow.kept h g (.inr hr)
set_option maxRecDepth 100000 in
set_option maxHeartbeats 2000000 in
theorem spec_UncoveredPlaces (x u : ByteArray) (w : World) (sx : x.size ≤ maxLen) (su : u.size ≤ maxLen) :
    Calls Tryd.prog 55 #[.string x, .string u] w (RetI (uncoveredR x u).1 (uncoveredR x u).2 w) := by
  obtain ⟨i0, hi, hz0, hz1, hz2⟩ := info_parts infoI64
  by_cases h : IsW x ∧ IsW u
  · by_cases k : u.size = 0
    · have e1 := codeR1_empty h k
      rw [uncoveredR_empty h k]
      clear h
      go_enter Tryd.func55, Tryd.ntmps55
      go_wp2_with (go_at_call 120; refine (l09Code1_any x u _ sx su _ (by simp) (by simp [go_sem])).mono ?_; rintro e w1 ⟨rfl, b1⟩)
      go_ret2
      exact ⟨_, rfl, OwnI.nil _ _, (Below.new _ _).then b1⟩
    · have e1 := codeR1_ok h k
      rw [uncoveredR_ok h k]
      have zx := h.1.size
      have zu := h.2.size
      clear h k
      go_enter Tryd.func55, Tryd.ntmps55
      go_wp2_with (first | (go_at_call 120; refine (l09Code1_any x u _ sx su _ (by simp) (by simp [go_sem])).mono ?_; rintro e w1 ⟨rfl, b1⟩; have B1 := (Below.new w (.cells #[.string u] 9)).then b1) | (go_at_call 124; refine (l09Places_any x u _ zx zu).mono ?_; rintro e w2 ⟨G, rfl, t2, b2⟩))
      have hGl := (t2.lt G rfl).2
      have T2 := Lib.hid t2
      have B2 := B1.then b2
      clear t2
      go_loopw [8, 9] (fun s8 s9 wr => ∃ k : Nat, k ≤ x.size ∧ s9 = .int .i64 (k : Int) ∧ OwnI wr w2.heap.size s8 (uncL x u k) ∧ Below w2.heap.size w2 wr)
        (fun _ s9 _ => x.size - (intOf s9).toNat)
      case atStart => exact ⟨0, Nat.zero_le _, rfl, OwnI.lit0 _ (Nat.le_refl _), Below.new _ _⟩
      case round =>
        obtain ⟨k, hk, rfl, hown, hB⟩ := hrel
        have hbz := hB.size
        have hll := uncL_len x u k
        by_cases hp : k < x.size
        · have hkn : (k : Int) < (x.size : Int) := by omega
          have hk0 : (0 : Int) ≤ (k : Int) := by omega
          have q1 : wr.cell? ⟨G, k, none⟩ = some (.bool (cvB x u k)) := by rw [(bcell hB).1 G k hGl]; exact T2.out.at hp
          cases h1 : cvB x u k with
          | true =>
            rw [h1] at q1
            have HS := Lib.hid (uncL_hit h1)
            clear h1
            go_wp2_with fail
            go_roundw
            case rel => exact ⟨k + 1, by omega, by go_num, by rw [HS.out]; exact hown, hB⟩
            case measure => simp [intOf]; omega
          | false =>
            rw [h1] at q1
            have HS := Lib.hid (uncL_miss h1)
            clear h1
            generalize uncL x u k = L at *
            go_wp2_with (at_builtin; refine wpList_append_own _ rfl _ _ 59 rfl w2.heap.size 2 i0 (.int .i64 0) 1 8 Tryd.underlying59 hi hz0 hz1 hz2 rfl (by decide) _ _ _ rfl (World.ownsRow.alloc hown _) ⟨_, 0, none⟩ 1 1 [.int .i64 (k : Int)] rfl rfl (cell_new _ _ _) (by intro u hu; simp at hu; subst hu; rfl) (by unfold maxLen; omega) (by omega) (by simp; omega) ?_; intro v' w3 hown' hgrow _)
            go_roundw
            case rel =>
              refine ⟨k + 1, by omega, by go_num, ?_, ?_⟩
              · rw [HS.out]
                unfold OwnI
                rw [List.length_append, List.map_append]
                exact hown'
              · exact (hB.alloc (by omega) _).grown hgrow (by simp; omega) (fun q hq => (hown.lt q hq).1)
            case measure => simp [intOf]; omega
        · obtain rfl : k = x.size := by omega
          have hkn : ¬ (x.size : Int) < (x.size : Int) := by omega
          go_wp2_with fail
          go_ret2
          exact ⟨_, rfl, hown.base B2.size, B2.then hB⟩
  · have e1 := codeR1_bad h
    rw [uncoveredR_bad h]
    clear h
    go_enter Tryd.func55, Tryd.ntmps55
    go_wp2_with (go_at_call 120; refine (l09Code1_any x u _ sx su _ (by simp) (by simp [go_sem])).mono ?_; rintro e w1 ⟨rfl, b1⟩)
    go_ret2
    exact ⟨_, rfl, OwnI.nil _ _, (Below.new _ _).then b1⟩

end Go.Proofs.YtfipbnognjepkaaDoor

/-! ### GrS -/
namespace Go.Proofs.YtfipbnognjepkaaDoor
set_option linter.unusedVariables false
set_option linter.unusedSimpArgs false
open Go.RowKit

theorem isW_noneG : IsW ⟨#[]⟩ := ⟨by decide, fun i hi => absurd hi (Nat.not_lt_zero i)⟩
theorem slice_toG (x : ByteArray) (n : Nat) (h : n ≤ x.size) (W : World) :
    (Instr.slice 9 (.string x) none (some (.int .i64 (n : Int))) none).run Tryd.prog W = .ok (.string (x.extract 0 n)) W := by
  have := run_slice_string_h (P := Tryd.prog) W 9 x Tryd.underlying9 .i64 (n : Int) (by omega) (by omega)
  simpa using this
theorem slice_fromG (x : ByteArray) (n : Nat) (h : n ≤ x.size) (W : World) :
    (Instr.slice 9 (.string x) (some (.int .i64 (n : Int))) none none).run Tryd.prog W = .ok (.string (x.extract n x.size)) W := by
  have := run_slice_string_l (P := Tryd.prog) W 9 x Tryd.underlying9 .i64 (n : Int) (by omega) (by omega)
  simpa using this
theorem ownI_lkGS {w : World} {B : Nat} {v : Value} {L : List Int} (h : OwnI w B v L) : ∃ ad cap, v = .slice ad L.length cap ∧ ∀ j (hj : j < L.length), ∃ g, ad = some ⟨g, 0, none⟩ ∧ g < w.heap.size ∧ j < cap ∧ w.cell? ⟨g, j, none⟩ = some (.int .i64 (L[j]'hj)) := by
  rcases own_forms h with ⟨rfl, h0, _⟩ | ⟨g, cap, rfl, _, hg, hc, _, hk, _⟩
  · exact ⟨_, _, by rw [h0], fun j hj => by omega⟩
  · refine ⟨_, _, rfl, fun j hj => ⟨g, rfl, hg, by omega, ?_⟩⟩
    rw [hk j hj]
    simp [hj]

set_option maxRecDepth 100000 in
set_option maxHeartbeats 4000000 in
theorem spec_GrowByCover (u : ByteArray) (B : Nat) (v : Value) (L : List Int) (w : World) (su : u.size ≤ maxLen) (h : OwnI w B v L) (hl : L.length ≤ 1048576) :
    Calls Tryd.prog 52 #[.string u, v] w fun e w' => e = .returned (.tuple #[.string (growCR u L).1, .int .i64 (growCR u L).2]) ∧ Below w.heap.size w w' := by
  obtain ⟨ad, cap, rfl, look⟩ := ownI_lkGS h
  have LK := Lib.hid look
  clear look h
  by_cases hw : IsW u
  · by_cases k0 : u.size = 0
    · have e1 := codeR1_empty (x := ⟨#[]⟩) ⟨isW_noneG, hw⟩ k0
      have E := Lib.hid (growCR_out (L := L) hw (.inl k0))
      clear hw LK
      go_enter Tryd.func52, Tryd.ntmps52
      go_wp2_with (go_at_call 120; refine (l09Code1_any ⟨#[]⟩ u _ (by decide) su _ (by simp) (by simp [go_sem])).mono ?_; rintro e w1 ⟨rfl, b1⟩)
      refine bodyPost_ret (v := .tuple #[.string ⟨#[]⟩, .int .i64 2]) ?_ rfl ⟨by rw [E.out], (Below.new _ _).then b1⟩
      simp [results, Tryd.results52, go_sem]
    · have e1 := codeR1_ok (x := ⟨#[]⟩) ⟨isW_noneG, hw⟩ k0
      have hx := hw.size
      have HW := Lib.hid hw
      clear hw
      go_enter Tryd.func52, Tryd.ntmps52
      go_wp2_with (go_at_call 120; refine (l09Code1_any ⟨#[]⟩ u _ (by decide) su _ (by simp) (by simp [go_sem])).mono ?_; rintro e w1 ⟨rfl, b1⟩)
      have B1 : Below w.heap.size w w1 := (Below.new _ _).then b1
      clear b1
      have LB : ∀ W, Below w.heap.size w W → ∀ j (hj : j < L.length), ∃ g, ad = some ⟨g, 0, none⟩ ∧ j < cap ∧ W.cell? ⟨g, j, none⟩ = some (.int .i64 (L[j]'hj)) := fun W b j hj => by
        obtain ⟨g, h1, h2, h3, h4⟩ := LK.out j hj
        exact ⟨g, h1, h3, by rw [b.cell (show g < _ from h2)]; exact h4⟩
      have LBH := Lib.hid LB
      clear LB LK
      go_wp2_with fail
      go_loopw [8] (fun s8 wr => Below w.heap.size w wr ∧ ∃ k : Nat, k ≤ L.length ∧ s8 = .int .i64 (k : Int) ∧ Hid (∀ i (hi : i < L.length), i < k → 0 ≤ L[i]'hi ∧ L[i]'hi < u.size))
        (fun s8 _ => L.length - (intOf s8).toNat)
      case atStart => exact ⟨B1, 0, Nat.zero_le _, rfl, Lib.hid (fun i _ hi => by omega)⟩
      case round =>
        clear B1
        obtain ⟨hB, k, hk, rfl, hi⟩ := hrel
        by_cases hp : k < L.length
        · obtain ⟨g, rfl, hg3, kc⟩ := LBH.out wr hB k hp
          have hkn : (k : Int) < (L.length : Int) := by omega
          have hk0 : (0 : Int) ≤ (k : Int) := by omega
          by_cases hz : 0 ≤ L[k]'hp ∧ L[k]'hp < u.size
          · have hi2 : Hid (∀ i (hi : i < L.length), i < k + 1 → 0 ≤ L[i]'hi ∧ L[i]'hi < u.size) := Lib.hid fun i hi1 hi3 => by
              by_cases e : i = k
              · subst e; exact hz
              · exact hi.out i hi1 (by omega)
            clear hi
            generalize L[k]'hp = z at *
            go_wp2_with (go_at_call 121; refine (l01In_yes z 0 ((u.size : Int) - 1) _ hz.1 (by omega)).mono ?_; rintro e w5 ⟨rfl, b5⟩)
            go_roundw
            case rel => exact ⟨hB.then b5, k + 1, by omega, by go_num, hi2⟩
            case measure => simp [intOf]; omega
          · have E := Lib.hid (growCR_out (L := L) HW.out (.inr (fun e => hz (e _ (List.getElem_mem hp)))))
            clear hi
            generalize L[k]'hp = z at *
            go_wp2_with (go_at_call 121; refine (l01In_no z 0 ((u.size : Int) - 1) _ (by omega)).mono ?_; rintro e w5 ⟨rfl, b5⟩)
            refine bodyPost_ret (v := .tuple #[.string ⟨#[]⟩, .int .i64 2]) ?_ rfl ⟨by rw [E.out], hB.then b5⟩
            simp [results, Tryd.results52, go_sem]
        · obtain rfl : k = L.length := by omega
          have hkn : ¬ (L.length : Int) < (L.length : Int) := by omega
          have HR : Hid (∀ z ∈ L, 0 ≤ z ∧ z < u.size) := Lib.hid fun z hz => by
            obtain ⟨i, hi1, rfl⟩ := List.getElem_of_mem hz
            exact hi.out i hi1 hi1
          clear hi
          go_wp2_with fail
          go_loopw [9] (fun s9 wr => Below w.heap.size w wr ∧ ∃ k : Nat, k ≤ L.length ∧ s9 = .int .i64 (k : Int) ∧ Hid (∀ i (hi : i < L.length), i < k → bdT u (L[i]'hi).toNat = true))
            (fun s9 _ => L.length - (intOf s9).toNat)
          case atStart => exact ⟨hB, 0, Nat.zero_le _, rfl, Lib.hid (fun i _ hi => by omega)⟩
          case round =>
            clear hB
            obtain ⟨hB, k, hk, rfl, hi⟩ := hrel
            by_cases hp : k < L.length
            · obtain ⟨g, rfl, hg3, kc⟩ := LBH.out wr hB k hp
              have hkn : (k : Int) < (L.length : Int) := by omega
              have hk0 : (0 : Int) ≤ (k : Int) := by omega
              obtain ⟨z0, z1⟩ := HR.out _ (List.getElem_mem hp)
              obtain ⟨z, hz⟩ : ∃ z : Nat, L[k]'hp = (z : Int) := ⟨(L[k]'hp).toNat, by omega⟩
              have hzz : (L[k]'hp).toNat = z := by omega
              rw [hz] at kc
              obtain ⟨p, hpp⟩ : ∃ p : Nat, u.size - z = p := ⟨_, rfl⟩
              have e2 : (u.size : Int) - (z : Int) = (p : Int) := by omega
              have hs1 := slice_toG u z (by omega)
              have hs2 := slice_fromG u p (by omega)
              by_cases he : u.extract 0 z = u.extract p u.size
              · have hb : bdT u z = true := by unfold bdT; rw [hpp]; exact decide_eq_true he
                have hi2 : Hid (∀ i (hi : i < L.length), i < k + 1 → bdT u (L[i]'hi).toNat = true) := Lib.hid fun i hi1 hi3 => by
                  by_cases e : i = k
                  · subst e; rw [hzz]; exact hb
                  · exact hi.out i hi1 (by omega)
                have hq := teq_yes he
                clear hi he hb hz hzz
                go_wp2_with fail
                go_region
                go_wp2_with fail
                go_roundw
                case rel => exact ⟨hB.drew, k + 1, by omega, by go_num, hi2⟩
                case measure => simp [intOf]; omega
              · have hb : bdT u z = false := by unfold bdT; rw [hpp]; exact decide_eq_false he
                have E := Lib.hid (growCR_none (L := L) HW.out k0 HR.out (fun e => by have := e _ (List.getElem_mem hp); rw [hzz, hb] at this; cases this))
                have hq := teq_no he
                clear hi he hb hz hzz
                go_wp2_with fail
                go_region
                go_wp2_with fail
                refine bodyPost_ret (v := .tuple #[.string ⟨#[]⟩, .int .i64 4]) ?_ rfl ⟨by rw [E.out], hB.drew⟩
                simp [results, Tryd.results52, go_sem]
            · obtain rfl : k = L.length := by omega
              have hkn : ¬ (L.length : Int) < (L.length : Int) := by omega
              have HF : Hid (∀ z ∈ L, bdT u z.toNat = true) := Lib.hid fun z hz => by
                obtain ⟨i, hi1, rfl⟩ := List.getElem_of_mem hz
                exact hi.out i hi1 hi1
              clear hi
              go_wp2_with fail
              go_loopw [10, 11] (fun s10 s11 wr => Below w.heap.size w wr ∧ ∃ (k : Nat) (s : ByteArray), k ≤ L.length ∧ s11 = .int .i64 (k : Int) ∧ s10 = .string s ∧ Hid (s = growT u (L.take k)) ∧ s.size ≤ 60)
                (fun _ s11 _ => L.length - (intOf s11).toNat)
              case atStart => exact ⟨hB, 0, u, Nat.zero_le _, rfl, rfl, Lib.hid rfl, hx⟩
              case round =>
                clear hB
                obtain ⟨hB, k, s, hk, rfl, rfl, hs, hs60⟩ := hrel
                by_cases hp : k < L.length
                · obtain ⟨g, rfl, hg3, kc⟩ := LBH.out wr hB k hp
                  have hkn : (k : Int) < (L.length : Int) := by omega
                  have hk0 : (0 : Int) ≤ (k : Int) := by omega
                  obtain ⟨z0, z1⟩ := HR.out _ (List.getElem_mem hp)
                  obtain ⟨z, hz⟩ : ∃ z : Nat, L[k]'hp = (z : Int) := ⟨(L[k]'hp).toNat, by omega⟩
                  have hzz : (L[k]'hp).toNat = z := by omega
                  have hst : (s.size : Int) = growN u.size (L.take k) := by rw [hs.out]; exact growT_take L HR.out k hk
                  have hsn : growN u.size (L.take (k + 1)) = growN u.size (L.take k) + ((u.size : Int) - z) := by rw [List.take_succ_eq_append_getElem hp, growN_snoc, hz]
                  have hsx := slice_fromG u z (by omega)
                  have zb : (z : Int) < (u.size : Int) := by omega
                  rw [hz] at kc
                  by_cases hc : (s.size : Int) + (u.size : Int) - (z : Int) > 60
                  · have E := Lib.hid (growCR_long (L := L) HW.out k0 HR.out HF.out (by
                      have h2 : growN u.size (L.take (k + 1)) ≤ growN u.size L := by
                        have := growN_mono (n := u.size) (L.take (k + 1)) (L.drop (k + 1)) (fun z hz => HR.out z (List.mem_of_mem_drop hz))
                        rwa [List.take_append_drop] at this
                      omega))
                    clear hs hst hsn hz hzz
                    go_wp2_with fail
                    refine bodyPost_ret (v := .tuple #[.string ⟨#[]⟩, .int .i64 3]) ?_ rfl ⟨by rw [E.out], hB⟩
                    simp [results, Tryd.results52, go_sem]
                  · have hn : Hid (s ++ u.extract z u.size = growT u (L.take (k + 1))) := Lib.hid (by rw [List.take_succ_eq_append_getElem hp, growT_snoc, hs.out, hzz])
                    have hsz : (s ++ u.extract z u.size).size ≤ 60 := by rw [ByteArray.size_append, ByteArray.size_extract]; omega
                    have hsz2 : s.size + (u.extract z u.size).size ≤ 60 := by rw [ByteArray.size_extract]; omega
                    clear hs hst hsn hz hzz
                    go_wp2_with fail
                    exact ⟨⟨hB, k + 1, _, by omega, by go_num, rfl, hn, hsz⟩, by simp [intOf]; omega⟩
                · obtain rfl : k = L.length := by omega
                  have hkn : ¬ (L.length : Int) < (L.length : Int) := by omega
                  have e0 : L.take L.length = L := List.take_length
                  rw [e0] at hs
                  have E := Lib.hid (growCR_ok (L := L) HW.out k0 HR.out HF.out (by
                    have h2 := growT_size L HR.out
                    rw [← hs.out] at h2
                    omega))
                  rw [← hs.out] at E
                  clear hs
                  go_wp2_with fail
                  refine bodyPost_ret (v := .tuple #[.string s, .int .i64 0]) ?_ rfl ⟨by rw [E.out], hB⟩
                  simp [results, Tryd.results52, go_sem]
  · have e1 := codeR1_bad (x := ⟨#[]⟩) (u := u) (fun e => hw e.2)
    rw [growCR_bad hw]
    clear hw LK
    go_enter Tryd.func52, Tryd.ntmps52
    go_wp2_with (go_at_call 120; refine (l09Code1_any ⟨#[]⟩ u _ (by decide) su _ (by simp) (by simp [go_sem])).mono ?_; rintro e w1 ⟨rfl, b1⟩)
    refine bodyPost_ret (v := .tuple #[.string ⟨#[]⟩, .int .i64 1]) ?_ rfl ⟨rfl, (Below.new _ _).then b1⟩
    simp [results, Tryd.results52, go_sem]

end Go.Proofs.YtfipbnognjepkaaDoor
