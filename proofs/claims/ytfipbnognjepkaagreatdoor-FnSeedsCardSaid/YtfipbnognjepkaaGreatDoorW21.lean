/- Covers and seeds in the model. -/
import Derived.Test.YtfipbnognjepkaaGreatDoorInts
import Derived.Test.YtfipbnognjepkaaGreatDoorFactor
import Derived.Test.YtfipbnognjepkaaGreatDoorNumbers
import Derived.Test.YtfipbnognjepkaaGreatDoorPlacesPlain
import Derived.Test.YtfipbnognjepkaaGreatDoorCovPlain
import Derived.Deep.LoopGhost
import Derived.Deep.Cut
import Derived.Deep.CutRange
import Derived.Deep.RegionHeld3
import Derived.Test.YtfipbnognjepkaaGreatDoorStrs
import Derived.Test.YtfipbnognjepkaaGreatDoorSeedPlain
import Derived.Test.YtfipbnognjepkaaGreatDoorFactorsS
import Derived.Test.YtfipbnognjepkaaGreatDoorTurn
import Derived.Deep.CutBlock
import Derived.Test.YtfipbnognjepkaaGreatDoorBbPlain

/-! ### PlacesS -/
namespace Go.Proofs.YtfipbnognjepkaaGreatDoor
set_option linter.unusedVariables false
set_option linter.unusedSimpArgs false
open Go.RowKit

set_option maxRecDepth 100000 in
set_option maxHeartbeats 1000000 in
theorem l01Places_any (x u : ByteArray) (w : World) (hx : x.size ≤ 60) (hu : u.size ≤ 60) :
    Calls Tryz.prog 147 #[.string x, .string u] w fun e w' => ∃ v, e = .returned v ∧ OwnI w' w.heap.size v (posOf x u (List.range (x.size + 1 - u.size))) ∧ Below w.heap.size w w' := by
  obtain ⟨i0, hi, hz0, hz1, hz2⟩ := info_parts infoI64
  go_enter Tryz.func147, Tryz.ntmps147
  go_wp2
  go_loopw [5, 6] (fun v i wr => ∃ k : Nat, k ≤ x.size + 1 - u.size ∧ i = .int .i64 k ∧ wr.ownsRow w.heap.size 2 1 v (posOf x u (List.range k)).length ((posOf x u (List.range k)).map (Value.int .i64)) ∧ Below w.heap.size w wr)
    (fun _ i _ => x.size + 1 - (intOf i).toNat)
  case atStart =>
    refine ⟨0, Nat.zero_le _, rfl, ?_, Below.new _ _⟩
    exact World.ownsRow_lit w #[] 0 (Nat.le_refl _) (by decide) (by simp)
  case round =>
    obtain ⟨k, hk, rfl, hown, hB⟩ := hrel
    have hbz := hB.size
    have hlen := posOf_len x u (List.range k)
    rw [List.length_range] at hlen
    by_cases hp : k + u.size ≤ x.size
    · have hsl := fun W => slice_mid x k u.size hp W
      by_cases he : x.extract k (k + u.size) = u
      · have hsn := posOf_hit x u (List.range k) he
        rw [← List.range_succ] at hsn
        have HS := Lib.hid hsn
        have hq := teq_yes he
        clear hsn he
        generalize posOf x u (List.range k) = L at hown hlen HS
        go_wp2_with (at_builtin; refine wpList_append_own _ rfl _ _ 45 rfl w.heap.size 2 i0 (.int .i64 0) 1 8 Tryz.underlying45 hi hz0 hz1 hz2 rfl (by decide) _ _ _ rfl (hown.alloc _) ⟨_, 0, none⟩ 1 1 [.int .i64 (k : Int)] rfl rfl (cell_new _ _ _) (by intro u hu; simp at hu; subst hu; rfl) (by unfold maxLen; omega) (by omega) (by simp; omega) ?_; intro v' w3 hown' hgrow _)
        go_roundw
        case rel =>
          refine ⟨k + 1, by omega, by go_num, ?_, ?_⟩
          · rw [HS.out, List.length_append, ← map_snoc]; exact hown'
          · exact (hB.alloc hbz _).grown hgrow (by simp; omega) (fun q hq => (hown.lt q hq).1)
        case measure => simp [intOf]; omega
      · have hsn := posOf_miss x u (List.range k) he
        rw [← List.range_succ] at hsn
        have HS := Lib.hid hsn
        have hq := teq_no he
        clear hsn he
        go_wp2
        go_roundw
        case rel => exact ⟨k + 1, by omega, by go_num, by rw [HS.out]; exact hown, hB⟩
        case measure => simp [intOf]; omega
    · have hke : k = x.size + 1 - u.size := by omega
      have HO := Lib.hid hown
      clear hown
      go_wp2
      go_ret
      rw [← hke]
      exact ⟨_, rfl, HO.out, hB⟩

end Go.Proofs.YtfipbnognjepkaaGreatDoor

/-! ### TabB -/
namespace Go.Proofs.YtfipbnognjepkaaGreatDoor
set_option linter.unusedVariables false
set_option linter.unusedSimpArgs false
open Go.RowKit

theorem infoBoolG : (Tryz.prog.info? 4).map (fun i => (i.zero, i.size, i.bytes)) = some (some (.bool false), 1, 1) := by kernel_rfl
def tabO (n : Nat) (o : Nat → Bool) : List Value := (List.range n).map fun p => Value.bool (o p)
theorem tabO_get (n : Nat) (o : Nat → Bool) (p : Nat) (h : p < n) : (tabO n o)[p]? = some (.bool (o p)) := by simp [tabO, h]
theorem tabO_set (n : Nat) (o : Nat → Bool) (p : Nat) (z : Bool) : (tabO n o).set p (.bool z) = tabO n (fun q => if q = p then z else o q) := by
  apply List.ext_getElem
  · simp [tabO]
  · intro i h1 h2
    rw [List.getElem_set]
    by_cases e : p = i
    · subst e; simp [tabO]
    · rw [if_neg e]
      simp [tabO, Ne.symm e]
theorem tabO_zero (n : Nat) : tabO n (fun _ => false) = List.replicate n (.bool false) := by
  unfold tabO
  rw [List.eq_replicate_iff]
  refine ⟨by rw [List.length_map, List.length_range], fun b hb => ?_⟩
  obtain ⟨s, _, rfl⟩ := List.mem_map.1 hb
  rfl
abbrev TabO (W : World) (B G n : Nat) (o : Nat → Bool) : Prop := W.ownsRow B 4 1 (.slice (some ⟨G, 0, none⟩) n n) n (tabO n o)
theorem TabO.at {W : World} {B G n : Nat} {o : Nat → Bool} (h : TabO W B G n o) {p : Nat} (hp : p < n) : W.cell? ⟨G, p, none⟩ = some (.bool (o p)) := by
  rw [h.cellAt p (by omega)]
  exact tabO_get n o p hp
theorem TabO.set {W : World} {B G n : Nat} {o : Nat → Bool} (h : TabO W B G n o) (p : Nat) (z : Bool) : TabO (W.setCell ⟨G, p, none⟩ (.bool z)) B G n (fun q => if q = p then z else o q) := by
  have := (h.stored p (.bool z)).1
  rwa [tabO_set] at this
theorem make_cellsB (n : Nat) (hn : n ≤ 60) (W : World) : (Instr.makeSlice 86 (.int .i64 (n : Int)) (.int .i64 (n : Int))).run Tryz.prog W = .ok (.slice (some ⟨W.heap.size, 0, none⟩) n n) (W.alloc (.cells (madeCells #[.bool false] n) 4)) := by
  obtain ⟨i0, hi, hz0, hz1, hz2⟩ := info_parts infoBoolG
  have := run_make (P := Tryz.prog) W 86 4 i0 (.bool false) Tryz.underlying86 hi hz0 .i64 .i64 n n (by omega) (Int.le_refl _) (by rw [hz2]; omega) (by omega)
  simpa [hz1, Value.cells] using this
theorem made_tabB (n : Nat) (hn : n ≤ 60) (W : World) (B : Nat) (hB : B ≤ W.heap.size) : TabO (W.alloc (.cells (madeCells #[.bool false] n) 4)) B W.heap.size n (fun _ => false) := by
  have h := own_base (World.ownsRow_lit (e := 4) W (madeCells #[.bool false] n) n (Nat.le_refl _) (by unfold maxLen; omega) (by simpa using size_madeCells (#[Value.bool false]) n)) hB
  have e := toList_madeCells_one (.bool false) n
  rw [e, ← tabO_zero] at h
  exact h
theorem OwnI.lkC {w : World} {B : Nat} {v : Value} {L : List Int} (h : OwnI w B v L) : ∃ ad cap, v = .slice ad L.length cap ∧ ∀ j (hj : j < L.length), ∃ g, ad = some ⟨g, 0, none⟩ ∧ g < w.heap.size ∧ j < cap ∧ w.cell? ⟨g, j, none⟩ = some (.int .i64 (L[j]'hj)) := by
  rcases own_forms h with ⟨rfl, h0, _⟩ | ⟨g, cap, rfl, _, hg, hc, _, hk, _⟩
  · exact ⟨_, _, by rw [h0], fun j hj => by omega⟩
  · refine ⟨_, _, rfl, fun j hj => ⟨g, rfl, hg, by omega, ?_⟩⟩
    rw [hk j hj]
    simp [hj]

end Go.Proofs.YtfipbnognjepkaaGreatDoor

/-! ### CovS -/
namespace Go.Proofs.YtfipbnognjepkaaGreatDoor
set_option linter.unusedVariables false
set_option linter.unusedSimpArgs false
open Go.RowKit

theorem nil_yesS {x : ByteArray} (h : x.size = 0) : x.toList.isEmpty = true := by
  have : x = ByteArray.empty := by
    cases x with | mk d => simp only [ByteArray.size] at h; rw [Array.eq_empty_of_size_eq_zero h]; rfl
  rw [this, ByteArray.toList_eq]; rfl
theorem nil_noS {x : ByteArray} (h : ¬ x.size = 0) : x.toList.isEmpty = false := by
  rw [ByteArray.toList_eq, List.isEmpty_eq_false_iff]
  intro e
  apply h
  show x.data.size = 0
  rw [← Array.length_toList, e]
  rfl
set_option maxRecDepth 100000 in
set_option maxHeartbeats 4000000 in
theorem l09Places_any (x u : ByteArray) (w : World) (hx : x.size ≤ 60) (hu : u.size ≤ 60) :
    Calls Tryz.prog 98 #[.string x, .string u] w fun e w' => ∃ G, e = .returned (.slice (some ⟨G, 0, none⟩) x.size x.size) ∧ TabO w' w.heap.size G x.size (cvB x u) ∧ Below w.heap.size w w' := by
  have hmk := make_cellsB x.size hx
  go_enter Tryz.func98, Tryz.ntmps98
  go_upto_region 1 with fail
  go_cut [5, 6] from 9 to 14 (fun s5 s6 wc => ∃ (G M : Nat) (v : Value), s5 = .slice (some ⟨G, 0, none⟩) x.size x.size ∧ s6 = v ∧ TabO wc w.heap.size G x.size (fun _ => false) ∧ OwnI wc M v (posOf x u (List.range (x.size + 1 - u.size))) ∧ v.ownBlock ≠ some G ∧ Below w.heap.size w wc)
  case first =>
    go_region_held3 (fun _ => True) (exact trivial) (first | (go_at_call 147; refine (l01Places_any x u _ hx hu).mono ?_; rintro e w1 ⟨v, rfl, o1, b1⟩))
    all_goals (try go_wp2_with fail)
    · go_meet
      case rel =>
        have t0 := made_tabB x.size hx w.drew w.heap.size (Nat.le_refl _)
        refine ⟨w.heap.size, _, v, rfl, rfl, own_below t0 b1, o1, ?_, ?_⟩
        · intro e
          have h9 := (o1.lt _ e).1
          have h8 : ∀ o, (w.alloc o).drew.heap.size = w.heap.size + 1 := fun o => by simp
          rw [h8] at h9
          omega
        · exact ((Below.refl _ w).drew.alloc (Nat.le_refl _) _).trans (b1.mono (by simp))
    · go_meet
      case rel =>
        have b2 : Below w.heap.size w w1 := (Below.refl _ w).drew.trans b1
        refine ⟨w1.heap.size, _, v, rfl, rfl, made_tabB x.size hx w1 _ b2.size, o1.below (Below.new _ _), ?_, b2.alloc b2.size _⟩
        intro e
        have h9 := (o1.lt _ e).2
        omega
  case rest =>
    obtain ⟨G, M, v, rfl, rfl, T0, o1, hne, B1⟩ := hcut
    have hL := posOf_len60 (x := x) (u := u)
    have hbd := posOf_bound x u (x.size + 1 - u.size)
    have hall := cvPos_all x u
    have hcl := posOf_len x u (List.range (x.size + 1 - u.size))
    rw [List.length_range] at hcl
    generalize posOf x u (List.range (x.size + 1 - u.size)) = L at *
    clear hL
    have HBD := Lib.hid hbd
    have HALL := Lib.hid hall
    clear hbd hall hmk
    obtain ⟨ad, cap, rfl, _⟩ := o1.lkC
    have T0' : TabO wc w.heap.size G x.size (cvPos L u.size 0) := by
      have : cvPos L u.size 0 = fun _ => false := by funext j; exact cvPos_zero _ _ _
      rw [this]; exact T0
    clear T0
    go_wp2_with fail
    go_loopw [7] (fun s7 wr => ∃ i : Nat, i ≤ L.length ∧ s7 = .int .i64 (i : Int) ∧ TabO wr w.heap.size G x.size (cvPos L u.size i) ∧ OwnI wr M (.slice ad L.length cap) L ∧ Below w.heap.size w wr)
      (fun s7 _ => L.length - (intOf s7).toNat)
    case atStart => exact ⟨0, Nat.zero_le _, rfl, T0', o1, B1⟩
    case round =>
      clear T0' o1 B1
      obtain ⟨i, hi, rfl, T1, o1, B1⟩ := hrel
      by_cases hp : i < L.length
      · obtain ⟨ad2, cap2, hv, look⟩ := o1.lkC
        obtain ⟨g, hg1, hg2, hg3, hg4⟩ := look i hp
        cases hv
        subst hg1
        have hb := HBD.out _ (List.getElem_mem hp)
        obtain ⟨z, hz⟩ : ∃ z : Nat, L[i]'hp = (z : Int) := ⟨(L[i]'hp).toNat, by omega⟩
        have hca := Lib.hid (cvPart_all (m := u.size) hp hz)
        rw [hz] at hg4 hb
        have T2 : TabO wr w.heap.size G x.size (cvPart L u.size i z 0) := by
          have : cvPart L u.size i z 0 = cvPos L u.size i := by funext j; exact cvPart_zero _ _ _ _ _
          rw [this]; exact T1
        clear T1 look
        have hii : (i : Int) < (L.length : Int) := by omega
        have hi0 : (0 : Int) ≤ (i : Int) := by omega
        go_wp2_with fail
        go_loopw [8] (fun s8 wr2 => ∃ j : Nat, j ≤ u.size ∧ s8 = .int .i64 (j : Int) ∧ TabO wr2 w.heap.size G x.size (cvPart L u.size i z j) ∧ OwnI wr2 M (.slice (some ⟨g, 0, none⟩) L.length cap) L ∧ Below w.heap.size w wr2)
          (fun s8 _ => u.size - (intOf s8).toNat)
        case atStart => exact ⟨0, Nat.zero_le _, rfl, T2, o1, B1⟩
        case round =>
          clear T2 o1 B1 hg4
          obtain ⟨j, hj, rfl, T2, o1, B1⟩ := hrel
          by_cases hq : j < u.size
          · obtain ⟨ad2, cap2, hv, look⟩ := o1.lkC
            obtain ⟨g2, hg1, hg2, hg3, hg4⟩ := look i hp
            cases hv
            cases hg1
            rw [hz] at hg4
            obtain ⟨q, hzq⟩ : ∃ q : Nat, z + j = q := ⟨_, rfl⟩
            have ho := T2.set (z + j) true
            rw [cvPart_succ, hzq] at ho
            have e1 : ((z : Int) + (j : Int)) = (q : Int) := by omega
            have hqx : q < x.size := by omega
            have hfz := T2.frozenAt q
            have hGa := T2.at hqx
            have g1 : wr.grownBy (wr.setCell ⟨G, q, none⟩ (.bool true)) (some G) := grown_set (grown_refl _ _) _ _
            have o2 := World.ownsRow.kept o1 g1 (.inr (by simpa [Value.ownBlock] using hne))
            have B2 : Below w.heap.size w (wr.setCell ⟨G, q, none⟩ (.bool true)) := B1.setCell (p := ⟨G, q, none⟩) (T2.lt G rfl).1 _
            have e2 : (q : Int) < (x.size : Int) := by omega
            have e3 : (0 : Int) ≤ (q : Int) := by omega
            clear T2 o1 B1
            have HO := Lib.hid ho
            have HP := Lib.hid o2
            clear ho o2
            go_wp2_with fail
            go_roundw
            case rel => exact ⟨j + 1, by omega, by go_num, HO.out, HP.out, B2⟩
            case measure => simp [intOf]; omega
          · obtain rfl : j = u.size := by omega
            have hq2 : ¬ (u.size : Int) < (u.size : Int) := by omega
            go_wp2_with fail
            go_roundw
            case rel => exact ⟨i + 1, by omega, by go_num, by rw [← hca.out]; exact T2, o1, B1⟩
            case measure => simp [intOf]; omega
      · obtain rfl : i = L.length := by omega
        have hii : ¬ (L.length : Int) < (L.length : Int) := by omega
        go_wp2_with fail
        go_ret
        refine ⟨G, rfl, ?_, B1⟩
        have : cvPos L u.size L.length = cvB x u := by funext j; exact HALL.out j
        rw [← this]; exact T1

set_option maxRecDepth 100000 in
set_option maxHeartbeats 1000000 in
theorem l09Count_any (B G n : Nat) (f : Nat → Bool) (w : World) (h : TabO w B G n f) (hn : n ≤ 60) :
    Calls Tryz.prog 97 #[.slice (some ⟨G, 0, none⟩) n n] w fun e w' => e = .returned (.int .i64 ((cnB f n : Nat) : Int)) ∧ w' = w := by
  have H := Lib.hid h
  have hG := (h.lt G rfl).2
  clear h
  go_enter Tryz.func97, Tryz.ntmps97
  go_wp2_with fail
  go_loopw [3, 4] (fun s3 s4 wr => wr = w ∧ ∃ k : Nat, k ≤ n ∧ s4 = .int .i64 (k : Int) ∧ s3 = .int .i64 ((cnB f k : Nat) : Int))
    (fun _ s4 _ => n - (intOf s4).toNat)
  case atStart => exact ⟨rfl, 0, Nat.zero_le _, rfl, rfl⟩
  case round =>
    obtain ⟨rfl, k, hk, rfl, rfl⟩ := hrel
    have hle := cnB_le f k
    by_cases hp : k < n
    · have hkn : (k : Int) < (n : Int) := by omega
      have hk0 : (0 : Int) ≤ (k : Int) := by omega
      have hc := H.out.at hp
      have hs : cnB f (k + 1) = cnB f k + if f k then 1 else 0 := rfl
      generalize cnB f k = q at *
      cases hf : f k with
      | false =>
        rw [hf] at hc hs
        go_wp2_with fail
        go_roundw
        case rel => exact ⟨trivial, k + 1, by omega, by go_num, by rw [hs]; rfl⟩
        case measure => simp [intOf]; omega
      | true =>
        rw [hf] at hc hs
        go_wp2_with fail
        go_roundw
        case rel => exact ⟨trivial, k + 1, by omega, by go_num, by rw [hs]; go_num⟩
        case measure => simp [intOf]; omega
    · obtain rfl : k = n := by omega
      have hkn : ¬ (k : Int) < (k : Int) := by omega
      go_wp2_with fail
      go_ret
      exact ⟨rfl, rfl⟩

def codeR (x : ByteArray) (xs : List ByteArray) : Int := if ¬ IsW x then 1 else if ¬ (∀ y ∈ xs, IsW y) then 1 else if ∃ y ∈ xs, y.size = 0 then 2 else 0
set_option maxRecDepth 100000 in
set_option maxHeartbeats 1000000 in
theorem l09Code_any (b : Nat) (x : ByteArray) (xs : List ByteArray) (w : World) (hb : b < w.heap.size) (hn : xs.length ≤ 9) (sx : x.size ≤ maxLen)
    (hc : ∀ j (h : j < xs.length), w.cell? ⟨b, j, none⟩ = some (.string (xs[j]'h))) (hs : ∀ j (h : j < xs.length), (xs[j]'h).size ≤ maxLen) :
    Calls Tryz.prog 111 #[.string x, .slice (some ⟨b, 0, none⟩) xs.length xs.length] w fun e w' => e = .returned (.int .i64 (codeR x xs)) ∧ Below w.heap.size w w' := by
  have HC := Lib.hid hc
  have HS := Lib.hid hs
  clear hc hs
  by_cases hx : IsW x
  · have HX := Lib.hid hx
    clear hx
    go_enter Tryz.func111, Tryz.ntmps111
    go_wp2_with (go_at_call 82; refine (l01Is_yes x _ HX.out).mono ?_; rintro e w1 ⟨rfl, b1⟩)
    go_loopw [5] (fun s5 wr => ∃ k : Nat, k ≤ xs.length ∧ s5 = .int .i64 (k : Int) ∧ Hid (∀ j (h : j < xs.length), j < k → IsW (xs[j]'h)) ∧ Below w.heap.size w wr)
      (fun s5 _ => xs.length - (intOf s5).toNat)
    case atStart => exact ⟨0, Nat.zero_le _, rfl, Lib.hid (fun j _ h => by omega), b1⟩
    case round =>
      obtain ⟨k, hk, rfl, hi, hB⟩ := hrel
      by_cases hp : k < xs.length
      · have hkn : (k : Int) < (xs.length : Int) := by omega
        have hk0 : (0 : Int) ≤ (k : Int) := by omega
        have kc : wr.cell? ⟨b, k, none⟩ = some (.string (xs[k]'hp)) := by rw [(bcell hB).1 b k hb]; exact HC.out k hp
        have sy := HS.out k hp
        by_cases hy : IsW (xs[k]'hp)
        · have HY := Lib.hid hy
          have hi2 : Hid (∀ j (h : j < xs.length), j < k + 1 → IsW (xs[j]'h)) := Lib.hid (fun j h hj => by
            by_cases e : j = k
            · subst e; exact hy
            · exact hi.out j h (by omega))
          clear hy
          go_wp2_with (go_at_call 82; refine (l01Is_yes _ _ HY.out).mono ?_; rintro e w2 ⟨rfl, b2⟩)
          go_roundw
          case rel => exact ⟨k + 1, by omega, by go_num, hi2, hB.then b2⟩
          case measure => simp [intOf]; omega
        · have HY := Lib.hid hy
          have e1 : codeR x xs = 1 := by
            unfold codeR; rw [if_neg (not_not_intro HX.out), if_pos (fun e => hy (e _ (List.getElem_mem hp)))]
          clear hy
          go_wp2_with (go_at_call 82; refine (l01Is_no _ _ sy HY.out).mono ?_; rintro e w2 ⟨rfl, b2⟩)
          go_ret
          exact ⟨by first | rfl | (rw [e1]; rfl), hB.then b2⟩
      · obtain rfl : k = xs.length := by omega
        have hkn : ¬ (xs.length : Int) < (xs.length : Int) := by omega
        have hall : ∀ y ∈ xs, IsW y := fun y hy => by
          obtain ⟨j, hj, rfl⟩ := List.getElem_of_mem hy
          exact hi.out j hj hj
        have HALL := Lib.hid hall
        clear hall
        go_wp2_with fail
        go_loopw [6] (fun s6 wr => ∃ k : Nat, k ≤ xs.length ∧ s6 = .int .i64 (k : Int) ∧ Hid (∀ j (h : j < xs.length), j < k → ¬ (xs[j]'h).size = 0) ∧ Below w.heap.size w wr)
          (fun s6 _ => xs.length - (intOf s6).toNat)
        case atStart => exact ⟨0, Nat.zero_le _, rfl, Lib.hid (fun j _ h => by omega), hB⟩
        case round =>
          clear hB hi
          obtain ⟨k, hk, rfl, hi, hB⟩ := hrel
          by_cases hp : k < xs.length
          · have hkn : (k : Int) < (xs.length : Int) := by omega
            have hk0 : (0 : Int) ≤ (k : Int) := by omega
            have kc : wr.cell? ⟨b, k, none⟩ = some (.string (xs[k]'hp)) := by rw [(bcell hB).1 b k hb]; exact HC.out k hp
            by_cases hy : (xs[k]'hp).size = 0
            · have hq := nil_yesS hy
              have e1 : codeR x xs = 2 := by
                unfold codeR; rw [if_neg (not_not_intro HX.out), if_neg (not_not_intro HALL.out), if_pos ⟨_, List.getElem_mem hp, hy⟩]
              clear hy
              go_wp2_with fail
              go_ret
              exact ⟨by first | rfl | (rw [e1]; rfl), hB⟩
            · have hq := nil_noS hy
              have hi2 : Hid (∀ j (h : j < xs.length), j < k + 1 → ¬ (xs[j]'h).size = 0) := Lib.hid (fun j h hj => by
                by_cases e : j = k
                · subst e; exact hy
                · exact hi.out j h (by omega))
              clear hy
              go_wp2_with fail
              go_roundw
              case rel => exact ⟨k + 1, by omega, by go_num, hi2, hB⟩
              case measure => simp [intOf]; omega
          · obtain rfl : k = xs.length := by omega
            have e1 : codeR x xs = 0 := by
              unfold codeR
              rw [if_neg (not_not_intro HX.out), if_neg (not_not_intro HALL.out), if_neg]
              rintro ⟨y, hy, h0⟩
              obtain ⟨j, hj, rfl⟩ := List.getElem_of_mem hy
              exact hi.out j hj hj h0
            have hkn : ¬ (xs.length : Int) < (xs.length : Int) := by omega
            go_wp2_with fail
            go_ret
            exact ⟨by first | rfl | (rw [e1]; rfl), hB⟩
  · have HX := Lib.hid hx
    have e1 : codeR x xs = 1 := by unfold codeR; rw [if_pos hx]
    clear hx
    go_enter Tryz.func111, Tryz.ntmps111
    go_wp2_with (go_at_call 82; refine (l01Is_no x _ sx HX.out).mono ?_; rintro e w1 ⟨rfl, b1⟩)
    go_ret
    exact ⟨by first | rfl | (rw [e1]; rfl), b1⟩

theorem codeR1_bad {x u : ByteArray} (h : ¬ (IsW x ∧ IsW u)) : codeR x [u] = 1 := by
  unfold codeR
  by_cases hx : IsW x
  · rw [if_neg (not_not_intro hx), if_pos (fun e => h ⟨hx, e u (by simp)⟩)]
  · rw [if_pos hx]
theorem codeR1_empty {x u : ByteArray} (h : IsW x ∧ IsW u) (k : u.size = 0) : codeR x [u] = 2 := by
  unfold codeR
  rw [if_neg (not_not_intro h.1), if_neg (not_not_intro (fun y hy => by rw [List.mem_singleton.1 hy]; exact h.2)), if_pos ⟨u, by simp, k⟩]
theorem codeR1_ok {x u : ByteArray} (h : IsW x ∧ IsW u) (k : ¬ u.size = 0) : codeR x [u] = 0 := by
  unfold codeR
  rw [if_neg (not_not_intro h.1), if_neg (not_not_intro (fun y hy => by rw [List.mem_singleton.1 hy]; exact h.2)), if_neg]
  rintro ⟨y, hy, h0⟩
  rw [List.mem_singleton.1 hy] at h0
  exact k h0
theorem l09Code1_any (x u : ByteArray) (w : World) (sx : x.size ≤ maxLen) (su : u.size ≤ maxLen) (b : Nat) (hb : b < w.heap.size) (hc : w.cell? ⟨b, 0, none⟩ = some (.string u)) :
    Calls Tryz.prog 111 #[.string x, .slice (some ⟨b, 0, none⟩) 1 1] w fun e w' => e = .returned (.int .i64 (codeR x [u])) ∧ Below w.heap.size w w' :=
  l09Code_any b x [u] w hb (by simp) sx (fun j h => by match j, h with | 0, _ => exact hc) (fun j h => by match j, h with | 0, _ => exact su)
theorem codeR2_bad {x u v : ByteArray} (h : ¬ (IsW x ∧ IsW u ∧ IsW v)) : codeR x [u, v] = 1 := by
  unfold codeR
  by_cases hx : IsW x
  · rw [if_neg (not_not_intro hx), if_pos (fun e => h ⟨hx, e u (by simp), e v (by simp)⟩)]
  · rw [if_pos hx]
theorem codeR2_empty {x u v : ByteArray} (h : IsW x ∧ IsW u ∧ IsW v) (k : u.size = 0 ∨ v.size = 0) : codeR x [u, v] = 2 := by
  unfold codeR
  rw [if_neg (not_not_intro h.1), if_neg (not_not_intro (fun y hy => by rcases List.mem_cons.1 hy with e | e; · rw [e]; exact h.2.1
                                                                        · rw [List.mem_singleton.1 e]; exact h.2.2)), if_pos]
  rcases k with k | k
  · exact ⟨u, by simp, k⟩
  · exact ⟨v, by simp, k⟩
theorem codeR2_ok {x u v : ByteArray} (h : IsW x ∧ IsW u ∧ IsW v) (k : ¬ (u.size = 0 ∨ v.size = 0)) : codeR x [u, v] = 0 := by
  unfold codeR
  rw [if_neg (not_not_intro h.1), if_neg (not_not_intro (fun y hy => by rcases List.mem_cons.1 hy with e | e; · rw [e]; exact h.2.1
                                                                        · rw [List.mem_singleton.1 e]; exact h.2.2)), if_neg]
  rintro ⟨y, hy, h0⟩
  rcases List.mem_cons.1 hy with e | e
  · rw [e] at h0; exact k (.inl h0)
  · rw [List.mem_singleton.1 e] at h0; exact k (.inr h0)
theorem l09Code2_any (x u v : ByteArray) (w : World) (sx : x.size ≤ maxLen) (su : u.size ≤ maxLen) (sv : v.size ≤ maxLen) (b : Nat) (hb : b < w.heap.size) (hc : w.cell? ⟨b, 0, none⟩ = some (.string u)) (hc1 : w.cell? ⟨b, 1, none⟩ = some (.string v)) :
    Calls Tryz.prog 111 #[.string x, .slice (some ⟨b, 0, none⟩) 2 2] w fun e w' => e = .returned (.int .i64 (codeR x [u, v])) ∧ Below w.heap.size w w' :=
  l09Code_any b x [u, v] w hb (by simp) sx (fun j h => by match j, h with | 0, _ => exact hc | 1, _ => exact hc1) (fun j h => by match j, h with | 0, _ => exact su | 1, _ => exact sv)

end Go.Proofs.YtfipbnognjepkaaGreatDoor

/-! ### CvS -/
namespace Go.Proofs.YtfipbnognjepkaaGreatDoor
set_option linter.unusedVariables false
set_option linter.unusedSimpArgs false
open Go.RowKit

theorem slice_begS (x : ByteArray) (k : Nat) (h : k < x.size) (W : World) :
    (Instr.slice 9 (.string x) none (some (.int .i64 ((k : Int) + 1))) none).run Tryz.prog W = .ok (.string (beg x k)) W := by
  have := run_slice_string_h (P := Tryz.prog) W 9 x Tryz.underlying9 .i64 ((k : Int) + 1) (by omega) (by omega)
  have e : ((k : Int) + 1).toNat = k + 1 := by omega
  rw [e] at this
  exact this
theorem ownS_put {w : World} {B : Nat} {v : Value} {L : List ByteArray} {s : ByteArray} (h : w.ownsRow B 9 1 v (L.length + 1) (L.map Value.string ++ [Value.string s])) : OwnS w B v (L ++ [s]) := by
  unfold OwnS
  rw [List.length_append, List.map_append]
  exact h
theorem ownS_lk {w : World} {B : Nat} {v : Value} {L : List ByteArray} (h : OwnS w B v L) : ∃ ad cap, v = .slice ad L.length cap := by
  rcases own_forms h with ⟨rfl, h0, _⟩ | ⟨g, cap, rfl, _⟩
  · exact ⟨_, _, by rw [h0]⟩
  · exact ⟨_, _, rfl⟩

end Go.Proofs.YtfipbnognjepkaaGreatDoor

/-! ### SdS -/
namespace Go.Proofs.YtfipbnognjepkaaGreatDoor
set_option linter.unusedVariables false
set_option linter.unusedSimpArgs false
open Go.RowKit

theorem slice_toS (x : ByteArray) (n : Nat) (h : n ≤ x.size) (W : World) :
    (Instr.slice 9 (.string x) none (some (.int .i64 (n : Int))) none).run Tryz.prog W = .ok (.string (x.extract 0 n)) W := by
  have := run_slice_string_h (P := Tryz.prog) W 9 x Tryz.underlying9 .i64 (n : Int) (by omega) (by omega)
  simpa using this
theorem slice_fromS (x : ByteArray) (n : Nat) (h : n ≤ x.size) (W : World) :
    (Instr.slice 9 (.string x) (some (.int .i64 (n : Int))) none none).run Tryz.prog W = .ok (.string (x.extract n x.size)) W := by
  have := run_slice_string_l (P := Tryz.prog) W 9 x Tryz.underlying9 .i64 (n : Int) (by omega) (by omega)
  simpa using this

set_option maxRecDepth 100000 in
set_option maxHeartbeats 4000000 in
theorem l09Seed_any (x u : ByteArray) (w : World) (hx : x.size ≤ 60) (hu : u.size ≤ x.size) (h1 : 1 ≤ u.size) :
    Calls Tryz.prog 112 #[.string x, .string u] w fun e w' => e = .returned (.bool (sdAll x u)) ∧ Below w.heap.size w w' := by
  have hmo : Tryz.prog.follows .mixedOrders = true := by kernel_rfl
  have hu60 : u.size ≤ 60 := by omega
  go_enter Tryz.func112, Tryz.ntmps112
  go_wp2_with fail
  refine (l09Places_any x u _ hx hu60).mono ?_
  rintro e w1 ⟨G, rfl, t1, b1⟩
  go_upto_block 0 with fail
  go_cut [6, 7] from 16 to 37 (fun s6 s7 wc => TabO wc w.heap.size G x.size (seedF1 x u) ∧ Below w.heap.size w wc)
  case first => as_aux_lemma =>
    go_wp2_with fail
    go_loopw [6] (fun s6 wr => ∃ m : Nat, m ≤ u.size - 1 ∧ s6 = .int .i64 (m : Int) ∧ lastP (hgL x u) (u.size - 1) = lastP (hgL x u) m ∧ TabO wr w.heap.size G x.size (cvB x u) ∧ Below w.heap.size w wr)
      (fun s6 _ => (intOf s6).toNat)
    case atStart => exact ⟨u.size - 1, Nat.le_refl _, by congr 1; omega, rfl, t1, b1⟩
    case round =>
      clear t1 b1
      obtain ⟨m, hm, rfl, hl, t1, b1⟩ := hrel
      by_cases hp : 0 < m
      · have hmi : (m : Int) > 0 := by omega
        have hm0 : (0 : Int) ≤ (m : Int) := by omega
        obtain ⟨p, hpp⟩ : ∃ p : Nat, u.size - m = p := ⟨_, rfl⟩
        have e1 : (u.size : Int) - (m : Int) = (p : Int) := by omega
        have hs1 := slice_toS x m (by omega)
        have hs2 := slice_fromS u p (by omega)
        by_cases he : x.extract 0 m = u.extract p u.size
        · have hg : hgL x u m = true := by unfold hgL; rw [hpp]; exact decide_eq_true he
          rw [lastP_self (by omega) hg] at hl
          have hq := teq_yes he
          have HF := Lib.hid (seedF1_at hl)
          have t2 : TabO wr w.heap.size G x.size (fun j => cvB x u j || decide (j < 0)) := by rw [fillL_zero]; exact t1
          clear he hg t1 hpp
          generalize x.extract 0 m = z1 at *
          generalize u.extract p u.size = z2 at *
          go_wp2_with fail
          go_region
          go_wp2_with fail
          go_loopw [7] (fun s7 wr2 => ∃ i : Nat, i ≤ m ∧ s7 = .int .i64 (i : Int) ∧ TabO wr2 w.heap.size G x.size (fun j => cvB x u j || decide (j < i)) ∧ Below w.heap.size w wr2)
            (fun s7 _ => m - (intOf s7).toNat)
          case atStart => exact ⟨0, Nat.zero_le _, rfl, World.ownsRow.drew t2, b1.drew⟩
          case round =>
            clear t2 b1
            obtain ⟨i, hi, rfl, t1, b1⟩ := hrel
            by_cases hpi : i < m
            · have him : (i : Int) < (m : Int) := by omega
              have hi0 : (0 : Int) ≤ (i : Int) := by omega
              have hix : (i : Int) < (x.size : Int) := by omega
              have ho := t1.set i true
              rw [fillL_succ] at ho
              have hfz := t1.frozenAt i
              have hGa := t1.at (p := i) (by omega)
              have B2 : Below w.heap.size w (wr.setCell ⟨G, i, none⟩ (.bool true)) := b1.setCell (p := ⟨G, i, none⟩) (t1.lt G rfl).1 _
              have HO := Lib.hid ho
              clear ho t1 b1
              go_wp2_with fail
              go_roundw
              case rel => exact ⟨i + 1, by omega, by go_num, HO.out, B2⟩
              case measure => simp [intOf]; omega
            · obtain rfl : i = m := by omega
              have him : ¬ (i : Int) < (i : Int) := by omega
              go_wp2_with fail
              go_meet
              case rel => exact ⟨by rw [← HF.out]; exact t1, b1⟩
        · have hg : hgL x u m = false := by unfold hgL; rw [hpp]; exact decide_eq_false he
          rw [lastP_pred (by omega) hg] at hl
          have hq := teq_no he
          clear he hg hpp
          generalize x.extract 0 m = z1 at *
          generalize u.extract p u.size = z2 at *
          go_wp2_with fail
          go_region
          go_wp2_with fail
          go_roundw
          case rel => exact ⟨m - 1, by omega, by congr 1; omega, hl, World.ownsRow.drew t1, b1.drew⟩
          case measure => simp [intOf]; omega
      · obtain rfl : m = 0 := by omega
        have hl0 : lastP (hgL x u) (u.size - 1) = 0 := hl
        have HF := Lib.hid (seedF1_at hl0)
        have t2 : TabO wr w.heap.size G x.size (fun j => cvB x u j || decide (j < 0)) := by rw [fillL_zero]; exact t1
        go_wp2_with fail
        go_meet
        case rel => exact ⟨by rw [← HF.out]; exact t2, b1⟩
  case rest =>
    clear t1 b1
    obtain ⟨t1, b1⟩ := hcut
    go_upto_block 4 with fail
    go_cut [8, 9] from 41 to 67 (fun s8 s9 wd => TabO wd w.heap.size G x.size (svB x u) ∧ Below w.heap.size w wd)
    case first => as_aux_lemma =>
      go_wp2_with fail
      go_loopw [8] (fun s8 wr => ∃ m : Nat, m ≤ u.size - 1 ∧ s8 = .int .i64 (m : Int) ∧ lastP (hgR x u) (u.size - 1) = lastP (hgR x u) m ∧ TabO wr w.heap.size G x.size (seedF1 x u) ∧ Below w.heap.size w wr)
        (fun s8 _ => (intOf s8).toNat)
      case atStart => exact ⟨u.size - 1, Nat.le_refl _, by congr 1; omega, rfl, t1, b1⟩
      case round =>
        clear t1 b1
        obtain ⟨m, hm, rfl, hl, t1, b1⟩ := hrel
        by_cases hp : 0 < m
        · have hmi : (m : Int) > 0 := by omega
          have hm0 : (0 : Int) ≤ (m : Int) := by omega
          obtain ⟨p, hpp⟩ : ∃ p : Nat, x.size - m = p := ⟨_, rfl⟩
          have e1 : (x.size : Int) - (m : Int) = (p : Int) := by omega
          have hs1 := slice_fromS x p (by omega)
          have hs2 := slice_toS u m (by omega)
          by_cases he : x.extract p x.size = u.extract 0 m
          · have hg : hgR x u m = true := by unfold hgR; rw [hpp]; exact decide_eq_true he
            rw [lastP_self (by omega) hg] at hl
            have hq := teq_yes he
            have hF := seedF2_at hl
            rw [hpp] at hF
            have HF := Lib.hid hF
            have t2 : TabO wr w.heap.size G x.size (fun j => seedF1 x u j || (decide (p ≤ j) && decide (j < p))) := by rw [fillR_zero]; exact t1
            clear he hg t1 hF
            have hpx : p ≤ x.size := by omega
            clear hpp
            generalize x.extract p x.size = z1 at *
            generalize u.extract 0 m = z2 at *
            go_wp2_with fail
            go_region
            go_wp2_with fail
            go_loopw [9] (fun s9 wr2 => ∃ i : Nat, p ≤ i ∧ i ≤ x.size ∧ s9 = .int .i64 (i : Int) ∧ TabO wr2 w.heap.size G x.size (fun j => seedF1 x u j || (decide (p ≤ j) && decide (j < i))) ∧ Below w.heap.size w wr2)
              (fun s9 _ => x.size - (intOf s9).toNat)
            case atStart => exact ⟨p, Nat.le_refl _, hpx, rfl, World.ownsRow.drew t2, b1.drew⟩
            case round =>
              clear t2 b1
              obtain ⟨i, hpi0, hi, rfl, t1, b1⟩ := hrel
              by_cases hpi : i < x.size
              · have him : (i : Int) < (x.size : Int) := by omega
                have hi0 : (0 : Int) ≤ (i : Int) := by omega
                have ho := t1.set i true
                rw [fillR_succ _ _ _ hpi0] at ho
                have hfz := t1.frozenAt i
                have hGa := t1.at (p := i) hpi
                have B2 : Below w.heap.size w (wr.setCell ⟨G, i, none⟩ (.bool true)) := b1.setCell (p := ⟨G, i, none⟩) (t1.lt G rfl).1 _
                have HO := Lib.hid ho
                clear ho t1 b1
                go_wp2_with fail
                go_roundw
                case rel => exact ⟨i + 1, by omega, by omega, by go_num, HO.out, B2⟩
                case measure => simp [intOf]; omega
              · obtain rfl : i = x.size := by omega
                have him : ¬ (x.size : Int) < (x.size : Int) := by omega
                go_wp2_with fail
                go_meet
                case rel => exact ⟨by rw [← HF.out]; exact t1, b1⟩
          · have hg : hgR x u m = false := by unfold hgR; rw [hpp]; exact decide_eq_false he
            rw [lastP_pred (by omega) hg] at hl
            have hq := teq_no he
            clear he hg
            have hpx : p ≤ x.size := by omega
            clear hpp
            generalize x.extract p x.size = z1 at *
            generalize u.extract 0 m = z2 at *
            go_wp2_with fail
            go_region
            go_wp2_with fail
            go_roundw
            case rel => exact ⟨m - 1, by omega, by congr 1; omega, hl, World.ownsRow.drew t1, b1.drew⟩
            case measure => simp [intOf]; omega
        · obtain rfl : m = 0 := by omega
          have hl0 : lastP (hgR x u) (u.size - 1) = 0 := hl
          have hF := seedF2_at hl0
          have e3 : (fun j => seedF1 x u j || (decide (x.size - 0 ≤ j) && decide (j < x.size))) = fun j => seedF1 x u j || (decide (x.size ≤ j) && decide (j < x.size)) := rfl
          rw [e3, fillR_zero] at hF
          have HF := Lib.hid hF
          clear hF e3
          go_wp2_with fail
          go_meet
          case rel => exact ⟨by rw [← HF.out]; exact t1, b1⟩
    case rest =>
      clear t1 b1
      obtain ⟨t1, b1⟩ := hcut
      have hd : (((cnB (svB x u) x.size : Nat) : Int) == (x.size : Int)) = sdAll x u := by
        rw [sdAll, ← cnB_dec, Bool.eq_iff_iff, beq_iff_eq, decide_eq_true_eq]
        omega
      have hle := cnB_le (svB x u) x.size
      have HC := Lib.hid (l09Count_any _ _ _ _ wc t1 hx)
      clear t1
      go_wp2_with (go_at_call 97; refine HC.out.mono ?_; rintro e w2 ⟨rfl, rfl⟩)
      go_ret
      exact ⟨rfl, b1⟩

end Go.Proofs.YtfipbnognjepkaaGreatDoor

/-! ### SdL -/
namespace Go.Proofs.YtfipbnognjepkaaGreatDoor
set_option linter.unusedVariables false
set_option linter.unusedSimpArgs false
open Go.RowKit

set_option maxRecDepth 100000 in
theorem spec_IsSeed (x u : ByteArray) (w : World) (sx : x.size ≤ maxLen) (su : u.size ≤ maxLen) :
    Calls Tryz.prog 42 #[.string x, .string u] w fun e w' => e = .returned (.tuple #[.bool (isSeedR x u).1, .int .i64 (isSeedR x u).2]) ∧ Below w.heap.size w w' := by
  by_cases h : IsW x ∧ IsW u
  · by_cases k : u.size = 0
    · have e1 := codeR1_empty h k
      rw [isSeedR_out h (.inl k)]
      clear h k
      go_enter Tryz.func42, Tryz.ntmps42
      go_wp2_with (go_at_call 111; refine (l09Code1_any x u _ sx su _ (by simp) (by simp [go_sem])).mono ?_; rintro e w1 ⟨rfl, b1⟩)
      go_ret2
      exact ⟨rfl, (Below.new _ _).then b1⟩
    · have e1 := codeR1_ok h k
      by_cases k2 : x.size < u.size
      · rw [isSeedR_out h (.inr k2)]
        have hq : (u.size : Int) > (x.size : Int) := by omega
        have hd : decide (x.size < u.size) = true := decide_eq_true k2
        clear h k k2
        go_enter Tryz.func42, Tryz.ntmps42
        go_wp2_with (go_at_call 111; refine (l09Code1_any x u _ sx su _ (by simp) (by simp [go_sem])).mono ?_; rintro e w1 ⟨rfl, b1⟩)
        go_ret2
        exact ⟨rfl, (Below.new _ _).then b1⟩
      · rw [isSeedR_ok h (fun e => e.elim k k2)]
        have hq : ¬ (u.size : Int) > (x.size : Int) := by omega
        have hd : decide (x.size < u.size) = false := decide_eq_false k2
        have zx := h.1.size
        have hle : u.size ≤ x.size := by omega
        have hu1 : 1 ≤ u.size := by omega
        clear h k k2
        go_enter Tryz.func42, Tryz.ntmps42
        go_wp2_with (first | (go_at_call 111; refine (l09Code1_any x u _ sx su _ (by simp) (by simp [go_sem])).mono ?_; rintro e w1 ⟨rfl, b1⟩) | (go_at_call 112; refine (l09Seed_any x u _ zx hle hu1).mono ?_; rintro e w2 ⟨rfl, b2⟩))
        go_ret2
        exact ⟨rfl, ((Below.new _ _).then b1).then b2⟩
  · have e1 := codeR1_bad h
    rw [isSeedR_bad h]
    clear h
    go_enter Tryz.func42, Tryz.ntmps42
    go_wp2_with (go_at_call 111; refine (l09Code1_any x u _ sx su _ (by simp) (by simp [go_sem])).mono ?_; rintro e w1 ⟨rfl, b1⟩)
    go_ret2
    exact ⟨rfl, (Below.new _ _).then b1⟩

theorem facs_bound {x z : ByteArray} {m : Nat} (h : z ∈ facs x m) : z.size = m ∧ z.size ≤ x.size := by
  unfold facs at h
  obtain ⟨i, hi, rfl⟩ := (mem_facK x m z _).1 h
  rw [ByteArray.size_extract]; omega
theorem ownS_lkS {w : World} {B : Nat} {v : Value} {L : List ByteArray} (h : OwnS w B v L) : ∃ ad cap, v = .slice ad L.length cap ∧ ∀ j (hj : j < L.length), ∃ g, ad = some ⟨g, 0, none⟩ ∧ g < w.heap.size ∧ j < cap ∧ w.cell? ⟨g, j, none⟩ = some (.string (L[j]'hj)) := by
  rcases own_forms h with ⟨rfl, h0, _⟩ | ⟨g, cap, rfl, _, hg, hc, _, hk, _⟩
  · exact ⟨_, _, by rw [h0], fun j hj => by omega⟩
  · refine ⟨_, _, rfl, fun j hj => ⟨g, rfl, hg, by omega, ?_⟩⟩
    rw [hk j hj]
    simp [hj]
theorem filtS_hit {L : List ByteArray} {p : ByteArray → Bool} {k : Nat} (h : k < L.length) (hp : p (L[k]'h) = true) : (L.take (k + 1)).filter p = (L.take k).filter p ++ [L[k]'h] := by
  rw [List.take_succ_eq_append_getElem h, List.filter_append]; simp [hp]
theorem filtS_miss {L : List ByteArray} {p : ByteArray → Bool} {k : Nat} (h : k < L.length) (hp : p (L[k]'h) = false) : (L.take (k + 1)).filter p = (L.take k).filter p := by
  rw [List.take_succ_eq_append_getElem h, List.filter_append]; simp [hp]

set_option maxRecDepth 100000 in
set_option maxHeartbeats 2000000 in
theorem l09Seeds_any (x : ByteArray) (m : Nat) (w : World) (hx : x.size ≤ 60) (h1 : 1 ≤ m) (h2 : m ≤ 60) :
    Calls Tryz.prog 83 #[.string x, .int .i64 (m : Int)] w fun e w' => ∃ v, e = .returned v ∧ OwnS w' w.heap.size v (sds x m) ∧ Below w.heap.size w w' := by
  obtain ⟨i0, hi, hz0, hz1, hz2⟩ := info_parts infoStr
  have hf : ∀ W, Calls Tryz.prog 107 #[.string x, .int .i64 (m : Int)] W fun e w' => ∃ v, e = .returned v ∧ OwnS w' W.heap.size v (facs x m) ∧ Below W.heap.size W w' := fun W => l01Factors_any x m W hx h2
  have hl := facs_len x m
  have hz : ∀ z ∈ facs x m, z.size = m ∧ z.size ≤ x.size := fun z hz => facs_bound hz
  have hsd : sds x m = (facs x m).filter (sdAll x) := rfl
  rw [hsd]
  clear hsd
  generalize facs x m = L at *
  have HF := Lib.hid hf
  have HZ := Lib.hid hz
  clear hf hz
  go_enter Tryz.func83, Tryz.ntmps83
  go_wp2_with (go_at_call 107; refine (HF.out _).mono ?_; rintro e w1 ⟨v1, rfl, o1, b1⟩; obtain ⟨ad, cap, rfl, look⟩ := ownS_lkS o1)
  have LK := Lib.hid look
  clear look o1
  have hb1z := b1.size
  go_loopw [6, 7] (fun s6 s7 wr => ∃ k : Nat, k ≤ L.length ∧ s7 = .int .i64 (k : Int) ∧ OwnS wr w1.heap.size s6 ((L.take k).filter (sdAll x)) ∧ Below w1.heap.size w1 wr)
    (fun _ s7 _ => L.length - (intOf s7).toNat)
  case atStart => exact ⟨0, Nat.zero_le _, rfl, own_base (World.ownsRow_lit w1 #[] 0 (Nat.le_refl _) (by decide) (by simp)) (Nat.le_refl _), Below.new _ _⟩
  case round =>
    obtain ⟨k, hk, rfl, hown, hB⟩ := hrel
    have hbz := hB.size
    by_cases hp : k < L.length
    · obtain ⟨g, rfl, hg2, hg3, hg4⟩ := LK.out k hp
      have kc : wr.cell? ⟨g, k, none⟩ = some (.string (L[k]'hp)) := by rw [(bcell hB).1 g k hg2]; exact hg4
      have hkn : (k : Int) < (L.length : Int) := by omega
      have hk0 : (0 : Int) ≤ (k : Int) := by omega
      obtain ⟨zm, zx⟩ := HZ.out _ (List.getElem_mem hp)
      have hc := fun W => l09Seed_any x (L[k]'hp) W hx zx (by omega)
      have hkd : ∀ W, Below wr.heap.size wr W → W.cell? ⟨g, k, none⟩ = some (.string (L[k]'hp)) := fun W b => by rw [(bcell b).1 g k (by omega)]; exact kc
      clear hg4 zm zx
      have hfl : ((L.take k).filter (sdAll x)).length ≤ 4096 := by
        have h1 := List.length_filter_le (sdAll x) (L.take k)
        rw [List.length_take] at h1
        omega
      cases ht : sdAll x (L[k]'hp) with
      | false =>
        have HS := Lib.hid (filtS_miss hp ht)
        rw [ht] at hc
        have HC := Lib.hid hc
        clear hc ht hkd
        generalize L[k]'hp = z at *
        go_wp2_with (go_at_call 112; refine (HC.out _).mono ?_; rintro e w2 ⟨rfl, b2⟩)
        go_roundw
        case rel => exact ⟨k + 1, by omega, by go_num, by rw [HS.out]; exact own_below hown b2, hB.then b2⟩
        case measure => simp [intOf]; omega
      | true =>
        have HS := Lib.hid (filtS_hit hp ht)
        rw [ht] at hc
        have HC := Lib.hid hc
        have HKD := Lib.hid hkd
        clear hc ht hkd
        generalize L[k]'hp = z at *
        generalize (L.take k).filter (sdAll x) = M at *
        go_wp2_with (first | (go_at_call 112; refine (HC.out _).mono ?_; rintro e w2 ⟨rfl, b2⟩; have hown1 : OwnS w2 w1.heap.size u6 M := own_below hown b2; have b2z := b2.size; have kc2 := HKD.out _ b2) | (at_builtin; refine wpList_append_own _ rfl _ _ 41 rfl w1.heap.size 9 i0 (.string ⟨#[]⟩) 1 16 Tryz.underlying41 hi hz0 hz1 hz2 rfl (by decide) _ _ _ rfl (World.ownsRow.alloc hown1 _) ⟨_, 0, none⟩ 1 1 [.string z] rfl rfl (cell_new _ _ _) (by intro u hu; simp at hu; subst hu; rfl) (by unfold maxLen; omega) (by omega) (by simp; omega) ?_; intro v' w3 hown' hgrow _))
        go_roundw
        case rel =>
          refine ⟨k + 1, by omega, by go_num, by rw [HS.out]; exact ownS_put hown', ?_⟩
          exact ((hB.then b2).alloc (by omega) _).grown hgrow (by simp; omega) (fun q hq => (hown1.lt q hq).1)
        case measure => simp [intOf]; omega
    · obtain rfl : k = L.length := by omega
      have hkn : ¬ (L.length : Int) < (L.length : Int) := by omega
      rw [List.take_length] at hown
      go_wp2_with fail
      go_ret
      exact ⟨_, rfl, own_base hown hb1z, b1.then hB⟩

def lenC (x : ByteArray) (m : Int) : Int := if ¬ IsW x then 1 else if m < 1 ∨ 60 < m then 2 else 0
theorem l09Length_any (x : ByteArray) (m : Int) (w : World) (sx : x.size ≤ maxLen) :
    Calls Tryz.prog 106 #[.string x, .int .i64 m] w fun e w' => e = .returned (.int .i64 (lenC x m)) ∧ Below w.heap.size w w' := by
  by_cases h : IsW x
  · have H := Lib.hid h
    by_cases k : m < 1 ∨ 60 < m
    · have e1 : lenC x m = 2 := by unfold lenC; rw [if_neg (not_not_intro h), if_pos k]
      have hk : ¬ (1 ≤ m ∧ m ≤ 60) := by omega
      clear h k
      go_enter Tryz.func106, Tryz.ntmps106
      go_wp2_with (first | (go_at_call 82; refine (l01Is_yes x _ H.out).mono ?_; rintro e w1 ⟨rfl, a1⟩) | (go_at_call 66; refine (l01In_no _ _ _ _ hk).mono ?_; rintro e w2 ⟨rfl, a2⟩))
      go_ret
      exact ⟨by first | rfl | (rw [e1]; rfl), a1.then a2⟩
    · have e1 : lenC x m = 0 := by unfold lenC; rw [if_neg (not_not_intro h), if_neg k]
      have hk1 : 1 ≤ m := by omega
      have hk2 : m ≤ 60 := by omega
      clear h k
      go_enter Tryz.func106, Tryz.ntmps106
      go_wp2_with (first | (go_at_call 82; refine (l01Is_yes x _ H.out).mono ?_; rintro e w1 ⟨rfl, a1⟩) | (go_at_call 66; refine (l01In_yes _ _ _ _ hk1 hk2).mono ?_; rintro e w2 ⟨rfl, a2⟩))
      go_ret
      exact ⟨by first | rfl | (rw [e1]; rfl), a1.then a2⟩
  · have H := Lib.hid h
    have e1 : lenC x m = 1 := by unfold lenC; rw [if_pos h]
    clear h
    go_enter Tryz.func106, Tryz.ntmps106
    go_wp2_with (go_at_call 82; refine (l01Is_no x _ sx H.out).mono ?_; rintro e w1 ⟨rfl, a1⟩)
    go_ret
    exact ⟨by first | rfl | (rw [e1]; rfl), a1⟩

set_option maxRecDepth 100000 in
theorem spec_SeedsOf (x : ByteArray) (m : Int) (w : World) (sx : x.size ≤ maxLen) (wm : (Lit.int .i64 m).wf = true) :
    Calls Tryz.prog 44 #[.string x, .int .i64 m] w (RetS (seedsR x m).1 (seedsR x m).2 w) := by
  by_cases h : IsW x
  · by_cases k : m < 1 ∨ 60 < m
    · have e1 : lenC x m = 2 := by unfold lenC; rw [if_neg (not_not_intro h), if_pos k]
      rw [seedsR_out h k]
      clear h k
      go_enter Tryz.func44, Tryz.ntmps44
      go_wp2_with (go_at_call 106; refine (l09Length_any x m _ sx).mono ?_; rintro e w1 ⟨rfl, a1⟩)
      go_ret2
      exact ⟨_, rfl, OwnS.nil _ _, a1⟩
    · have e1 : lenC x m = 0 := by unfold lenC; rw [if_neg (not_not_intro h), if_neg k]
      obtain ⟨n, rfl⟩ : ∃ n : Nat, m = n := ⟨m.toNat, by omega⟩
      rw [seedsR_ok h (by omega) (by omega)]
      have hx := h.size
      have h1 : 1 ≤ n := by omega
      have h2 : n ≤ 60 := by omega
      clear h k
      go_enter Tryz.func44, Tryz.ntmps44
      go_wp2_with (first | (go_at_call 106; refine (l09Length_any x n _ sx).mono ?_; rintro e w1 ⟨rfl, a1⟩) | (go_at_call 83; refine (l09Seeds_any x n _ hx h1 h2).mono ?_; rintro e w2 ⟨v, rfl, o2, a2⟩))
      go_ret2
      exact ⟨_, rfl, o2.base a1.size, a1.then a2⟩
  · have e1 : lenC x m = 1 := by unfold lenC; rw [if_pos h]
    rw [seedsR_bad h]
    clear h
    go_enter Tryz.func44, Tryz.ntmps44
    go_wp2_with (go_at_call 106; refine (l09Length_any x m _ sx).mono ?_; rintro e w1 ⟨rfl, a1⟩)
    go_ret2
    exact ⟨_, rfl, OwnS.nil _ _, a1⟩

set_option maxRecDepth 100000 in
set_option maxHeartbeats 2000000 in
theorem spec_LeastSeed (x : ByteArray) (w : World) (sx : x.size ≤ maxLen) :
    Calls Tryz.prog 26 #[.string x] w fun e w' => e = .returned (.tuple #[.string (leastSeedR x).1, .int .i64 (leastSeedR x).2]) ∧ Below w.heap.size w w' := by
  by_cases h : IsW x
  · by_cases h0 : x.size = 0
    · rw [leastSeedR_empty h h0]
      have hq := nil_yesS h0
      have H := Lib.hid h
      clear h
      go_enter Tryz.func26, Tryz.ntmps26
      go_wp2_with (go_at_call 82; refine (l01Is_yes x _ H.out).mono ?_; rintro e w1 ⟨rfl, a1⟩)
      go_ret2
      exact ⟨rfl, a1⟩
    · rw [leastSeedR_ok h h0]
      have hq := nil_noS h0
      have hx := h.size
      have H := Lib.hid h
      clear h
      go_enter Tryz.func26, Tryz.ntmps26
      go_wp2_with (go_at_call 82; refine (l01Is_yes x _ H.out).mono ?_; rintro e w1 ⟨rfl, a1⟩)
      go_loopw [4] (fun s4 wr => ∃ k : Nat, k + 1 ≤ x.size ∧ s4 = .int .i64 ((k : Int) + 1) ∧ Hid (∀ i, i < k → sds x (i + 1) = []) ∧ Below w1.heap.size w1 wr)
        (fun s4 _ => x.size + 2 - (intOf s4).toNat)
      case atStart => exact ⟨0, by omega, rfl, Lib.hid (fun i hi => by omega), Below.refl _ _⟩
      case round =>
        obtain ⟨k, hk, rfl, hi, hB⟩ := hrel
        by_cases hp : k + 1 < x.size
        · obtain ⟨m, hm⟩ : ∃ m : Nat, k + 1 = m := ⟨_, rfl⟩
          have em : (k : Int) + 1 = (m : Int) := by omega
          have hml : (m : Int) < (x.size : Int) := by omega
          have hm1 : 1 ≤ m := by omega
          have hm2 : m ≤ 60 := by omega
          by_cases hz : 0 < (sds x m).length
          · have hq2 : ((sds x m).length : Int) > 0 := by omega
            have e1 : Hid (∀ h : 0 < (sds x m).length, (sds x m)[0]'h = ls x) := Lib.hid fun h => by
              have := ls_at (k := k) (by omega) hi.out (by rw [hm]; exact h)
              simp only [hm] at this
              exact this.symm
            have SO := Lib.hid (fun W => l09Seeds_any x m W hx hm1 hm2)
            clear hi
            generalize sds x m = L at *
            go_wp2_with (go_at_call 83; refine (SO.out _).mono ?_; rintro e w3 ⟨v3, rfl, o3, a3⟩; obtain ⟨g4, c4, rfl, z1, z2, z3, z4, z5, z6⟩ := o3.row hz; have y1 := z5 0 hz; rw [e1.out hz] at y1; clear z5)
            go_ret2
            exact ⟨rfl, (a1.then hB).then a3⟩
          · have hq2 : ¬ ((sds x m).length : Int) > 0 := by omega
            have e1 : sds x m = [] := List.eq_nil_of_length_eq_zero (by omega)
            have hi2 : Hid (∀ i, i < k + 1 → sds x (i + 1) = []) := Lib.hid fun i hi1 => by
              by_cases e : i = k
              · subst e; rw [hm]; exact e1
              · exact hi.out i (by omega)
            clear hi
            go_wp2_with (go_at_call 83; refine (l09Seeds_any x m _ hx hm1 hm2).mono ?_; rintro e w3 ⟨v3, rfl, o3, a3⟩; obtain ⟨ad3, cp3, rfl⟩ := ownS_lk o3)
            go_roundw
            case rel => exact ⟨k + 1, by omega, by go_num, hi2, hB.then a3⟩
            case measure => simp [intOf]; omega
        · have hkn : ¬ ((k : Int) + 1) < (x.size : Int) := by omega
          have e1 : ls x = x := ls_self (by omega) (fun i hi1 => hi.out i (by omega))
          clear hi
          go_wp2_with fail
          go_ret2
          exact ⟨by first | rfl | (rw [e1]; rfl), a1.then hB⟩
  · rw [leastSeedR_bad h]
    have H := Lib.hid h
    clear h
    go_enter Tryz.func26, Tryz.ntmps26
    go_wp2_with (go_at_call 82; refine (l01Is_no x _ sx H.out).mono ?_; rintro e w1 ⟨rfl, a1⟩)
    go_ret2
    exact ⟨rfl, a1⟩

end Go.Proofs.YtfipbnognjepkaaGreatDoor

/-! ### CovTS -/
namespace Go.Proofs.YtfipbnognjepkaaGreatDoor
set_option linter.unusedVariables false
set_option linter.unusedSimpArgs false
open Go.RowKit

theorem allB_no {n k : Nat} {f : Nat → Bool} (hk : k < n) (h : f k = false) : allB n f = false := by
  rw [Bool.eq_false_iff]
  intro e
  rw [(allB_iff n f).1 e k hk] at h
  cases h
set_option maxRecDepth 100000 in
set_option maxHeartbeats 2000000 in
theorem l09Two_any (x u v : ByteArray) (w : World) (hx : x.size ≤ 60) (hu : u.size ≤ 60) (hv : v.size ≤ 60) :
    Calls Tryz.prog 108 #[.string x, .string u, .string v] w fun e w' => e = .returned (.bool (cvTwo x u v)) ∧ Below w.heap.size w w' := by
  go_enter Tryz.func108, Tryz.ntmps108
  go_wp2_with fail
  refine (l09Places_any x u _ hx hu).mono ?_
  rintro e w1 ⟨G1, rfl, t1, b1⟩
  go_wp2_with fail
  refine (l09Places_any x v _ hx hv).mono ?_
  rintro e w2 ⟨G2, rfl, t2, b2⟩
  have t1 := own_below t1 b2
  have B := b1.then b2
  clear b1 b2
  have T1 : Hid (TabO w2 w.heap.size G1 x.size (cvB x u)) := Lib.hid t1
  have T2 := Lib.hid t2
  clear t1 t2
  go_wp2_with fail
  go_loopw [9] (fun s9 wr => wr = w2 ∧ ∃ k : Nat, k ≤ x.size ∧ s9 = .int .i64 (k : Int) ∧ Hid (∀ j, j < k → (cvB x u j || cvB x v j) = true))
    (fun s9 _ => x.size - (intOf s9).toNat)
  case atStart => exact ⟨rfl, 0, Nat.zero_le _, rfl, Lib.hid fun j hj => by omega⟩
  case round =>
    obtain ⟨rfl, k, hk, rfl, hi⟩ := hrel
    by_cases hp : k < x.size
    · have hkn : (k : Int) < (x.size : Int) := by omega
      have hk0 : (0 : Int) ≤ (k : Int) := by omega
      have q1 := T1.out.at hp
      have q2 := T2.out.at hp
      cases h1 : cvB x u k with
      | true =>
        rw [h1] at q1
        have hi2 : Hid (∀ j, j < k + 1 → (cvB x u j || cvB x v j) = true) := Lib.hid fun j hj => by
          by_cases e : j = k
          · subst e; rw [h1]; rfl
          · exact hi.out j (by omega)
        clear h1
        go_wp2_with fail
        go_roundw
        case rel => exact ⟨trivial, k + 1, by omega, by go_num, hi2⟩
        case measure => simp [intOf]; omega
      | false =>
        rw [h1] at q1
        cases h2 : cvB x v k with
        | true =>
          rw [h2] at q2
          have hi2 : Hid (∀ j, j < k + 1 → (cvB x u j || cvB x v j) = true) := Lib.hid fun j hj => by
            by_cases e : j = k
            · subst e; rw [h2, Bool.or_true]
            · exact hi.out j (by omega)
          clear h1 h2
          go_wp2_with fail
          go_roundw
          case rel => exact ⟨trivial, k + 1, by omega, by go_num, hi2⟩
          case measure => simp [intOf]; omega
        | false =>
          rw [h2] at q2
          have hr : cvTwo x u v = false := allB_no hp (by rw [h1, h2]; rfl)
          clear h1 h2
          go_wp2_with fail
          go_ret
          exact ⟨by first | rfl | (rw [hr]; rfl), B⟩
    · obtain rfl : k = x.size := by omega
      have hkn : ¬ (x.size : Int) < (x.size : Int) := by omega
      have hr : cvTwo x u v = true := (allB_iff _ _).2 hi.out
      go_wp2_with fail
      go_ret
      exact ⟨by first | rfl | (rw [hr]; rfl), B⟩

set_option maxRecDepth 100000 in
theorem spec_CoveredByTwo (x u v : ByteArray) (w : World) (sx : x.size ≤ maxLen) (su : u.size ≤ maxLen) (sv : v.size ≤ maxLen) :
    Calls Tryz.prog 46 #[.string x, .string u, .string v] w fun e w' => e = .returned (.tuple #[.bool (coveredByTwoR x u v).1, .int .i64 (coveredByTwoR x u v).2]) ∧ Below w.heap.size w w' := by
  by_cases h : IsW x ∧ IsW u ∧ IsW v
  · by_cases k : u.size = 0 ∨ v.size = 0
    · have e1 := codeR2_empty h k
      rw [coveredByTwoR_empty h k]
      have H := Lib.hid h
      clear h
      go_enter Tryz.func46, Tryz.ntmps46
      go_wp2_with (go_at_call 111; refine (l09Code2_any x u v _ sx su sv _ (by simp) (by simp [go_sem]) (by simp [go_sem])).mono ?_; rintro e w1 ⟨rfl, b1⟩)
      go_ret2
      exact ⟨rfl, (Below.new _ _).then b1⟩
    · have e1 := codeR2_ok h k
      rw [coveredByTwoR_ok h k]
      have zx := h.1.size
      have zu := h.2.1.size
      have zv := h.2.2.size
      clear h k
      go_enter Tryz.func46, Tryz.ntmps46
      go_wp2_with (first | (go_at_call 111; refine (l09Code2_any x u v _ sx su sv _ (by simp) (by simp [go_sem]) (by simp [go_sem])).mono ?_; rintro e w1 ⟨rfl, b1⟩) | (go_at_call 108; refine (l09Two_any x u v _ zx zu zv).mono ?_; rintro e w2 ⟨rfl, b2⟩))
      go_ret2
      exact ⟨rfl, ((Below.new _ _).then b1).then b2⟩
  · have e1 := codeR2_bad h
    rw [coveredByTwoR_bad h]
    clear h
    go_enter Tryz.func46, Tryz.ntmps46
    go_wp2_with (go_at_call 111; refine (l09Code2_any x u v _ sx su sv _ (by simp) (by simp [go_sem]) (by simp [go_sem])).mono ?_; rintro e w1 ⟨rfl, b1⟩)
    go_ret2
    exact ⟨rfl, (Below.new _ _).then b1⟩

end Go.Proofs.YtfipbnognjepkaaGreatDoor

/-! ### FtS -/
namespace Go.Proofs.YtfipbnognjepkaaGreatDoor
set_option linter.unusedVariables false
set_option linter.unusedSimpArgs false
open Go.RowKit

theorem ftF_endS (x : ByteArray) (L : List ByteArray) : ftF x (L.drop L.length) = [] := by rw [List.drop_length]; rfl
theorem two_past {w W w1 : World} {p q : Addr} {a b : Value} (b1 : Below W.heap.size W w1) (h : W.cell? p = some a ∧ W.cell? q = some b ∧ Below w.heap.size w W) (hp : p.block < w.heap.size) (hq : q.block < w.heap.size) :
    w1.cell? p = some a ∧ w1.cell? q = some b ∧ Below w.heap.size w w1 := by
  have hs := h.2.2.size
  exact ⟨by rw [b1.cell (by omega)]; exact h.1, by rw [b1.cell (by omega)]; exact h.2.1, h.2.2.then b1⟩

set_option maxRecDepth 100000 in
set_option maxHeartbeats 4000000 in
theorem spec_FirstTwo (x : ByteArray) (m : Int) (w : World) (sx : x.size ≤ maxLen) (wm : (Lit.int .i64 m).wf = true) :
    Calls Tryz.prog 38 #[.string x, .int .i64 m] w (RetS (firstTwoR x m).1 (firstTwoR x m).2 w) := by
  have hmo : Tryz.prog.follows .mixedOrders = true := by kernel_rfl
  by_cases h : IsW x
  · by_cases k0 : m < 1 ∨ 60 < m
    · have e1 : lenC x m = 2 := by unfold lenC; rw [if_neg (not_not_intro h), if_pos k0]
      rw [firstTwoR_out h k0]
      clear h k0
      go_enter Tryz.func38, Tryz.ntmps38
      go_wp2_with (go_at_call 106; refine (l09Length_any x m _ sx).mono ?_; rintro e w1 ⟨rfl, a1⟩)
      go_ret2
      exact ⟨_, rfl, OwnS.nil _ _, a1⟩
    · have e1 : lenC x m = 0 := by unfold lenC; rw [if_neg (not_not_intro h), if_neg k0]
      obtain ⟨n, rfl⟩ : ∃ n : Nat, m = n := ⟨m.toNat, by omega⟩
      have hx := h.size
      have hn1 : 1 ≤ n := by omega
      have hn2 : n ≤ 60 := by omega
      have hf : ∀ W, Calls Tryz.prog 107 #[.string x, .int .i64 (n : Int)] W fun e w' => ∃ v, e = .returned v ∧ OwnS w' W.heap.size v (facs x n) ∧ Below W.heap.size W w' := fun W => l01Factors_any x n W hx hn2
      have hl := facs_len x n
      have hz : ∀ z ∈ facs x n, z.size ≤ 60 := fun z hz => Nat.le_trans (facs_bound hz).2 hx
      have hr0 : ftF x (facs x n) = [] → firstTwoR x (n : Int) = ([], 4) := firstTwoR_none h hn1 hn2
      have hr1 : ∀ u v, ftF x (facs x n) = [u, v] → firstTwoR x (n : Int) = ([u, v], 0) := fun u v => firstTwoR_ok h hn1 hn2
      clear h k0
      generalize facs x n = L at *
      have HF := Lib.hid hf
      have HZ := Lib.hid hz
      have HR0 := Lib.hid hr0
      have HR1 := Lib.hid hr1
      clear hf hz hr0 hr1
      generalize hR : firstTwoR x (n : Int) = R at *
      clear hR
      go_enter Tryz.func38, Tryz.ntmps38
      go_wp2_with (first | (go_at_call 106; refine (l09Length_any x n _ sx).mono ?_; rintro e w1 ⟨rfl, a1⟩) | (go_at_call 107; refine (HF.out _).mono ?_; rintro e w3 ⟨v3, rfl, o3, b3⟩; obtain ⟨ad, cap, rfl, look⟩ := ownS_lkS o3))
      have LK := Lib.hid look
      have B3 := a1.then b3
      clear look o3
      go_loopw [8] (fun s8 wr => ∃ k : Nat, k ≤ L.length ∧ s8 = .int .i64 (k : Int) ∧ Hid (ftF x L = ftF x (L.drop k)) ∧ Below w3.heap.size w3 wr)
        (fun s8 _ => L.length - (intOf s8).toNat)
      case atStart => exact ⟨0, Nat.zero_le _, rfl, Lib.hid rfl, Below.refl _ _⟩
      case round =>
        obtain ⟨k, hk, rfl, hi, hB⟩ := hrel
        by_cases hp : k < L.length
        · obtain ⟨g, rfl, hg2, hg3, hg4⟩ := LK.out k hp
          have hkn : (k : Int) < (L.length : Int) := by omega
          have hk0 : (0 : Int) ≤ (k : Int) := by omega
          have zu := HZ.out _ (List.getElem_mem hp)
          obtain ⟨u, hu⟩ : ∃ u, L[k]'hp = u := ⟨_, rfl⟩
          rw [hu] at hg4 zu
          have HUK := Lib.hid hu
          clear hu
          have HGU := Lib.hid hg4
          clear hg4
          have hkc : k < cap := hg3
          go_wp2_with fail
          go_loopw [9] (fun s9 wr2 => ∃ j : Nat, k < j ∧ j ≤ L.length ∧ s9 = .int .i64 (j : Int) ∧ Hid (∀ i (hi : i < L.length), k < i → i < j → cvTwo x u (L[i]'hi) = false) ∧ Below w3.heap.size w3 wr2)
            (fun s9 _ => L.length - (intOf s9).toNat)
          case atStart => exact ⟨k + 1, by omega, hp, by go_num, Lib.hid (fun i _ h1 h2 => by omega), hB⟩
          case round =>
            clear hB
            obtain ⟨j, hj0, hj, rfl, hi2, hB⟩ := hrel
            by_cases hjn : j < L.length
            · obtain ⟨g2, hg1, hg2', hg3', hg4⟩ := LK.out j hjn
              cases hg1
              have kc0 : wr.cell? ⟨g, k, none⟩ = some (.string u) := by rw [(bcell hB).1 g k hg2]; exact HGU.out
              have kc : wr.cell? ⟨g, j, none⟩ = some (.string (L[j]'hjn)) := by rw [(bcell hB).1 g j hg2]; exact hg4
              have zv := HZ.out _ (List.getElem_mem hjn)
              have hjN : (j : Int) < (L.length : Int) := by omega
              have hjz : (0 : Int) ≤ (j : Int) := by omega
              clear hg4
              obtain ⟨v, hv⟩ : ∃ v, L[j]'hjn = v := ⟨_, rfl⟩
              rw [hv] at kc zv
              have hc := fun W => l09Two_any x u v W hx zu zv
              cases ht : cvTwo x u v with
              | true =>
                have e0 : ftF x L = [u, v] := by
                  rw [hi.out, ftF_hit (i := k) (k := j) hj0 hjn (fun i hi3 h1 h2 => by rw [HUK.out]; exact hi2.out i hi3 h1 h2) (by rw [HUK.out, hv]; exact ht), HUK.out, hv]
                have E0 := Lib.hid (HR1.out _ _ e0)
                rw [ht] at hc
                have HC := Lib.hid hc
                clear hc ht e0 hi hi2 hv
                go_upto_region 11 with fail
                go_region_held3 (fun w' => w'.cell? ⟨g, k, none⟩ = some (.string u) ∧ w'.cell? ⟨g, j, none⟩ = some (.string v) ∧ Below w3.heap.size w3 w') (first | assumption | exact ⟨kc0, kc, hB⟩ | exact ⟨kc0, kc, hB.drew⟩ | (refine ⟨?_, ?_, ?_⟩ <;> first | assumption | exact Below.drew (by assumption) | go_keep)) (first | (go_at_call 108; refine (HC.out _).mono ?_; rintro e w5 ⟨rfl, b5⟩; have kp := two_past b5 (by first | assumption | exact ⟨by assumption, by assumption, by assumption⟩ | exact ⟨kc0, kc, hB⟩ | exact ⟨kc0, kc, hB.drew⟩) hg2 hg2))
                all_goals (try go_wp2_with fail)
                all_goals (
                  obtain ⟨q1, q2, q3⟩ := (by assumption : (_ ∧ _ ∧ Below w3.heap.size w3 _))
                  go_region
                  go_wp2_with fail
                  go_ret2
                  rw [E0.out]
                  refine ⟨_, rfl, own_base (World.ownsRow_lit _ #[.string u, .string v] 2 (Nat.le_refl _) (by decide) (by simp)) ((B3.then q3.drew).size), (B3.then q3.drew).alloc ((B3.then q3.drew).size) _⟩)
              | false =>
                have hi3 : Hid (∀ i (hi : i < L.length), k < i → i < j + 1 → cvTwo x u (L[i]'hi) = false) := Lib.hid fun i hi4 h1 h2 => by
                  by_cases e : i = j
                  · subst e; rw [hv]; exact ht
                  · exact hi2.out i hi4 h1 (by omega)
                rw [ht] at hc
                have HC := Lib.hid hc
                clear hc ht hi2 hv
                go_upto_region 11 with fail
                go_region_held3 (fun w' => w'.cell? ⟨g, k, none⟩ = some (.string u) ∧ w'.cell? ⟨g, j, none⟩ = some (.string v) ∧ Below w3.heap.size w3 w') (first | assumption | exact ⟨kc0, kc, hB⟩ | exact ⟨kc0, kc, hB.drew⟩ | (refine ⟨?_, ?_, ?_⟩ <;> first | assumption | exact Below.drew (by assumption) | go_keep)) (first | (go_at_call 108; refine (HC.out _).mono ?_; rintro e w5 ⟨rfl, b5⟩; have kp := two_past b5 (by first | assumption | exact ⟨by assumption, by assumption, by assumption⟩ | exact ⟨kc0, kc, hB⟩ | exact ⟨kc0, kc, hB.drew⟩) hg2 hg2))
                all_goals (try go_wp2_with fail)
                all_goals (
                  obtain ⟨q1, q2, q3⟩ := (by assumption : (_ ∧ _ ∧ Below w3.heap.size w3 _))
                  go_roundw
                  case rel => exact ⟨j + 1, by omega, by omega, by go_num, hi3, q3⟩
                  case measure => simp [intOf]; omega)
            · obtain rfl : j = L.length := by omega
              have hjN : ¬ (L.length : Int) < (L.length : Int) := by omega
              have hi4 : Hid (ftF x L = ftF x (L.drop (k + 1))) := Lib.hid (by
                rw [hi.out]
                exact ftF_skip hp (fun i hi3 h1 => by rw [HUK.out]; exact hi2.out i hi3 h1 hi3))
              clear hi hi2
              go_wp2_with fail
              go_roundw
              case rel => exact ⟨k + 1, by omega, by go_num, hi4, hB⟩
              case measure => simp [intOf]; omega
        · obtain rfl : k = L.length := by omega
          have hkn : ¬ (L.length : Int) < (L.length : Int) := by omega
          have e0 : ftF x L = [] := by rw [hi.out]; exact ftF_endS x L
          have E0 := Lib.hid (HR0.out e0)
          clear e0 hi
          go_wp2_with fail
          go_ret2
          rw [E0.out]
          exact ⟨_, rfl, OwnS.nil _ _, B3.then hB⟩
  · have e1 : lenC x m = 1 := by unfold lenC; rw [if_pos h]
    rw [firstTwoR_bad h]
    clear h
    go_enter Tryz.func38, Tryz.ntmps38
    go_wp2_with (go_at_call 106; refine (l09Length_any x m _ sx).mono ?_; rintro e w1 ⟨rfl, a1⟩)
    go_ret2
    exact ⟨_, rfl, OwnS.nil _ _, a1⟩

end Go.Proofs.YtfipbnognjepkaaGreatDoor

/-! ### BbS -/
namespace Go.Proofs.YtfipbnognjepkaaGreatDoor
set_option linter.unusedVariables false
set_option linter.unusedSimpArgs false
open Go.RowKit

theorem ext00S (x : ByteArray) : x.extract 0 0 = ⟨#[]⟩ := by
  apply ByteArray.ext
  simp
set_option maxRecDepth 100000 in
set_option maxHeartbeats 4000000 in
theorem spec_BestBorder (x : ByteArray) (w : World) (sx : x.size ≤ maxLen) :
    Calls Tryz.prog 32 #[.string x] w fun e w' => e = .returned (.tuple #[.string (bestR x).1, .int .i64 (bestR x).2.1, .int .i64 (bestR x).2.2]) ∧ Below w.heap.size w w' := by
  have hmo : Tryz.prog.follows .mixedOrders = true := by kernel_rfl
  by_cases h : IsW x
  · have H := Lib.hid h
    have hx := h.size
    have hr0 : (bbF x (x.size - 1)).2 = 0 → bestR x = (⟨#[]⟩, 0, 4) := bestR_none h
    have hr1 : ¬ (bbF x (x.size - 1)).2 = 0 → bestR x = (x.extract 0 (bbF x (x.size - 1)).1, ((bbF x (x.size - 1)).2 : Int), 0) := bestR_ok h
    have HR0 := Lib.hid hr0
    have HR1 := Lib.hid hr1
    clear h hr0 hr1
    go_enter Tryz.func32, Tryz.ntmps32
    go_wp2_with (go_at_call 82; refine (l01Is_yes x _ H.out).mono ?_; rintro e w1 ⟨rfl, a1⟩)
    go_loopw [5, 6, 7] (fun s5 s6 s7 wr => ∃ k : Nat, (k + 1 ≤ x.size ∨ k = 0) ∧ s7 = .int .i64 ((k : Int) + 1) ∧ s5 = .string (x.extract 0 (bbF x k).1) ∧ s6 = .int .i64 ((bbF x k).2 : Int) ∧ Below w.heap.size w wr)
      (fun _ _ s7 _ => x.size + 2 - (intOf s7).toNat)
    case atStart => exact ⟨0, .inr rfl, rfl, by rw [show bbF x 0 = (0, 0) from rfl, ext00S], rfl, a1⟩
    case round =>
      clear a1
      obtain ⟨k, hk, rfl, rfl, rfl, a1⟩ := hrel
      have hle := (bbF_le x k).2
      by_cases hp : k + 1 < x.size
      · obtain ⟨m, hm⟩ : ∃ m : Nat, k + 1 = m := ⟨_, rfl⟩
        have em : (k : Int) + 1 = (m : Int) := by omega
        have hml : (m : Int) < (x.size : Int) := by omega
        obtain ⟨p, hpp⟩ : ∃ p : Nat, x.size - m = p := ⟨_, rfl⟩
        have e1 : (x.size : Int) - (m : Int) = (p : Int) := by omega
        have hs1 := slice_toS x m (by omega)
        have hs2 := slice_fromS x p (by omega)
        have hm60 : (x.extract 0 m).size ≤ 60 := by rw [ByteArray.size_extract]; omega
        have hcl := cvN_le x (x.extract 0 m)
        by_cases he : x.extract 0 m = x.extract p x.size
        · have hb : bdT x (k + 1) = true := by unfold bdT; rw [hm, hpp]; exact decide_eq_true he
          have hq := teq_yes he
          clear he
          have hpl := fun W => l09Places_any x (x.extract 0 m) W hx hm60
          have hcn : cnB (cvB x (x.extract 0 m)) x.size = cvN x (x.extract 0 m) := rfl
          have hct := fun G W (t : TabO W W.heap.size G x.size (cvB x (x.extract 0 m))) => t
          by_cases hlt : (bbF x k).2 < cvN x (x.extract 0 m)
          · have e9 : bbF x (k + 1) = (m, cvN x (x.extract 0 m)) := by rw [bbF_hit hb (by rw [hm]; exact hlt), hm]
            have HE := Lib.hid e9
            have hgt : (cvN x (x.extract 0 m) : Int) > ((bbF x k).2 : Int) := by omega
            have hgt2 : decide ((bbF x k).2 < cvN x (x.extract 0 m)) = true := decide_eq_true hlt
            rw [← hcn] at hgt hgt2
            clear e9 hb hct
            go_wp2_with fail
            go_region
            go_wp2_with (first | (go_at_call 98; refine (hpl _).mono ?_; rintro e w5 ⟨G, rfl, t5, b5⟩) | (go_at_call 97; refine (l09Count_any _ _ _ _ _ t5 hx).mono ?_; rintro e w6 ⟨rfl, rfl⟩))
            go_roundw
            case rel => exact ⟨k + 1, .inl (by omega), by go_num, by rw [HE.out], by rw [HE.out], a1.drew.then b5⟩
            case measure => simp [intOf]; omega
          · have HE := Lib.hid (bbF_low (x := x) (k := k) (by rw [hm]; exact hlt))
            have hgt : ¬ (cvN x (x.extract 0 m) : Int) > ((bbF x k).2 : Int) := by omega
            have hgt2 : decide ((bbF x k).2 < cvN x (x.extract 0 m)) = false := decide_eq_false hlt
            rw [← hcn] at hgt hgt2
            clear hb hct
            go_wp2_with fail
            go_region
            go_wp2_with (first | (go_at_call 98; refine (hpl _).mono ?_; rintro e w5 ⟨G, rfl, t5, b5⟩) | (go_at_call 97; refine (l09Count_any _ _ _ _ _ t5 hx).mono ?_; rintro e w6 ⟨rfl, rfl⟩))
            go_roundw
            case rel => exact ⟨k + 1, .inl (by omega), by go_num, by rw [HE.out], by rw [HE.out], a1.drew.then b5⟩
            case measure => simp [intOf]; omega
        · have hb : bdT x (k + 1) = false := by unfold bdT; rw [hm, hpp]; exact decide_eq_false he
          have HE := Lib.hid (bbF_miss hb)
          have hq := teq_no he
          clear he hb
          go_wp2_with fail
          go_region
          go_wp2_with fail
          go_roundw
          case rel => exact ⟨k + 1, .inl (by omega), by go_num, by rw [HE.out], by rw [HE.out], a1.drew⟩
          case measure => simp [intOf]; omega
      · have hkn : ¬ ((k : Int) + 1) < (x.size : Int) := by omega
        have ek : x.size - 1 = k := by omega
        have hr0 := HR0.out
        have hr1 := HR1.out
        rw [ek] at hr0 hr1
        by_cases h0 : (bbF x k).2 = 0
        · have E0 := Lib.hid (hr0 h0)
          have h0i : (((bbF x k).2 : Nat) : Int) = 0 := by omega
          clear hr0 hr1
          go_wp2_with fail
          refine bodyPost_ret (v := .tuple #[.string ⟨#[]⟩, .int .i64 0, .int .i64 4]) ?_ rfl ⟨by rw [E0.out], a1⟩
          simp [results, Tryz.results32, go_sem]
        · have E0 := Lib.hid (hr1 h0)
          have h0i : ¬ (((bbF x k).2 : Nat) : Int) = 0 := by omega
          clear hr0 hr1
          generalize hs1 : x.extract 0 (bbF x k).1 = s1 at *
          generalize hn1 : (bbF x k).2 = n1 at *
          go_wp2_with fail
          refine bodyPost_ret (v := .tuple #[.string s1, .int .i64 (n1 : Int), .int .i64 0]) ?_ rfl ⟨by rw [E0.out], a1⟩
          simp [results, Tryz.results32, go_sem]
  · rw [bestR_bad h]
    have H := Lib.hid h
    clear h
    go_enter Tryz.func32, Tryz.ntmps32
    go_wp2_with (go_at_call 82; refine (l01Is_no x _ sx H.out).mono ?_; rintro e w1 ⟨rfl, a1⟩)
    refine bodyPost_ret (v := .tuple #[.string ⟨#[]⟩, .int .i64 0, .int .i64 1]) ?_ rfl ⟨rfl, a1⟩
    simp [results, Tryz.results32, go_sem]

end Go.Proofs.YtfipbnognjepkaaGreatDoor
