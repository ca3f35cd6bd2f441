/- Lists of words that cover, the program. -/
import Derived.Test.YtfipbnognjepkaaGreatDoorCovI
import Derived.Test.YtfipbnognjepkaaGreatDoorLib
import Derived.Test.YtfipbnognjepkaaGreatDoorDoorT
namespace Go.Proofs.YtfipbnognjepkaaGreatDoor
set_option linter.unusedVariables false
set_option linter.unusedSimpArgs false
open Go.RowKit

theorem infoC : (Tryz.prog.info? 100).map (fun i => (i.zero, i.size, i.bytes)) = some (some (.string ⟨#[]⟩), 1, 16) := by kernel_rfl
/-- A list of words of this kind that a call made. -/
def OwnC (w : World) (B : Nat) (v : Value) (L : List ByteArray) : Prop := w.ownsRow B 100 1 v L.length (L.map (Value.string))
theorem ownC_nil (w : World) (B : Nat) : OwnC w B (.slice none 0 0) [] := World.ownsRow_nil _ _ _ _
theorem ownC_snoc {w : World} {B : Nat} {v : Value} {L : List ByteArray} {s : ByteArray} (h : w.ownsRow B 100 1 v (L.length + 1) (L.map Value.string ++ [Value.string s])) : OwnC w B v (L ++ [s]) := by
  unfold OwnC
  rw [List.length_append, List.map_append]
  exact h
theorem ownC_look {w : World} {B : Nat} {v : Value} {L : List ByteArray} (h : OwnC w B v L) : ∃ ad cap, v = .slice ad L.length cap ∧ ∀ j (hj : j < L.length), ∃ g, ad = some ⟨g, 0, none⟩ ∧ g < w.heap.size ∧ j < cap ∧ w.cell? ⟨g, j, none⟩ = some (.string (L[j]'hj)) := by
  rcases own_forms h with ⟨rfl, h0, _⟩ | ⟨g, cap, rfl, _, hg, hc, _, hk, _⟩
  · exact ⟨_, _, by rw [h0], fun j hj => by omega⟩
  · refine ⟨_, _, rfl, fun j hj => ⟨g, rfl, hg, by omega, ?_⟩⟩
    rw [hk j hj]
    simp [hj]
theorem filtC_hit {L : List ByteArray} {p : ByteArray → Bool} {k : Nat} (h : k < L.length) (hp : p (L[k]'h) = true) : (L.take (k + 1)).filter p = (L.take k).filter p ++ [L[k]'h] := by
  rw [List.take_succ_eq_append_getElem h, List.filter_append]; simp [hp]
theorem filtC_miss {L : List ByteArray} {p : ByteArray → Bool} {k : Nat} (h : k < L.length) (hp : p (L[k]'h) = false) : (L.take (k + 1)).filter p = (L.take k).filter p := by
  rw [List.take_succ_eq_append_getElem h, List.filter_append]; simp [hp]

set_option maxRecDepth 100000 in
set_option maxHeartbeats 2000000 in
theorem coveringAll_C (B : Nat) (v : Value) (L : List ByteArray) (x : ByteArray) (w : World) (h : OwnC w B v L) (hl : L.length ≤ 4096) (hx : x.size ≤ 60) (hz : ∀ z ∈ L, z.size ≤ 60) :
    Calls Tryz.prog 141 #[v, .string x] w fun e w' => ∃ v', e = .returned v' ∧ OwnC w' w.heap.size v' (L.filter (cvAll x)) ∧ Below w.heap.size w w' := by
  obtain ⟨i0, hi, hz0, hz1, hz2⟩ := info_parts infoC
  obtain ⟨ad, cap, rfl, look⟩ := ownC_look h
  have LK := Lib.hid look
  have HZ := Lib.hid hz
  clear look hz h
  go_enter Tryz.func141, Tryz.ntmps141
  go_wp2_with fail
  go_loopw [5, 10] (fun s5 s10 wr => ∃ k : Nat, k ≤ L.length ∧ s10 = .int .i64 (k : Int) ∧ OwnC wr w.heap.size s5 ((L.take k).filter (cvAll x)) ∧ Below w.heap.size w wr)
    (fun _ s10 _ => L.length - (intOf s10).toNat)
  case atStart => exact ⟨0, Nat.zero_le _, rfl, ownC_nil _ _, Below.refl _ _⟩
  case round =>
    obtain ⟨k, hk, rfl, hown, hB⟩ := hrel
    by_cases hp : k < L.length
    · obtain ⟨g, rfl, hg2, hg3, hg4⟩ := LK.out k hp
      have kc : wr.cell? ⟨g, k, none⟩ = some (.string (L[k]'hp)) := by rw [(bcell hB).1 g k hg2]; exact hg4
      have hkn : (k : Int) < (L.length : Int) := by omega
      have hk0 : (0 : Int) ≤ (k : Int) := by omega
      have zk := HZ.out _ (List.getElem_mem hp)
      have hc := fun W => coversAll_inner x (L[k]'hp) W hx zk
      clear hg4 zk
      have hfl : ((L.take k).filter (cvAll x)).length ≤ 4096 := by
        have h1 := List.length_filter_le (cvAll x) (L.take k)
        rw [List.length_take] at h1
        omega
      have hbz := hB.size
      cases ht : cvAll x (L[k]'hp) with
      | false =>
        have HS := Lib.hid (filtC_miss hp ht)
        rw [ht] at hc
        have HC := Lib.hid hc
        clear hc ht
        generalize L[k]'hp = z at *
        go_wp2_with (go_at_call 86; refine (HC.out _).mono ?_; rintro e w1 ⟨rfl, b1⟩)
        go_roundw
        case rel => exact ⟨k + 1, by omega, by go_num, by rw [HS.out]; exact own_below hown b1, hB.then b1⟩
        case measure => simp [intOf]; omega
      | true =>
        have HS := Lib.hid (filtC_hit hp ht)
        rw [ht] at hc
        have HC := Lib.hid hc
        clear hc ht
        generalize L[k]'hp = z at *
        generalize (L.take k).filter (cvAll x) = M at *
        go_wp2_with (first | (go_at_call 86; refine (HC.out _).mono ?_; rintro e w1 ⟨rfl, b1⟩; have hown1 : OwnC w1 w.heap.size u5 M := own_below hown b1; have b1z := b1.size) | (at_builtin; refine wpList_append_own _ rfl _ _ 98 rfl w.heap.size 100 i0 (.string ⟨#[]⟩) 1 16 Tryz.underlying98 hi hz0 hz1 hz2 rfl (by decide) _ _ _ rfl (World.ownsRow.alloc hown1 _) ⟨_, 0, none⟩ 1 1 [.string z] rfl rfl (cell_new _ _ _) (by intro u hu; simp at hu; subst hu; rfl) (by unfold maxLen; omega) (by omega) (by simp; omega) ?_; intro v' w3 hown' hgrow _))
        go_roundw
        case rel =>
          refine ⟨k + 1, by omega, by go_num, by rw [HS.out]; exact ownC_snoc hown', ?_⟩
          exact ((hB.then b1).alloc (by omega) _).grown hgrow (by simp; omega) (fun q hq => (hown1.lt q hq).1)
        case measure => simp [intOf]; omega
    · obtain rfl : k = L.length := by omega
      have hkn : ¬ (L.length : Int) < (L.length : Int) := by omega
      rw [List.take_length] at hown
      go_wp2_with fail
      go_ret
      exact ⟨_, rfl, hown, hB⟩

set_option maxRecDepth 100000 in
set_option maxHeartbeats 2000000 in
theorem texts_C (B : Nat) (v : Value) (L : List ByteArray) (w : World) (h : OwnC w B v L) (hl : L.length ≤ 4096) (hz : ∀ z ∈ L, z.size ≤ 60) :
    Calls Tryz.prog 89 #[v] w fun e w' => ∃ v', e = .returned v' ∧ OwnS w' w.heap.size v' L ∧ Below w.heap.size w w' := by
  obtain ⟨i0, hi, hz0, hz1, hz2⟩ := info_parts infoStr
  obtain ⟨ad, cap, rfl, look⟩ := ownC_look h
  have LK := Lib.hid look
  have HZ := Lib.hid hz
  clear look hz h
  go_enter Tryz.func89, Tryz.ntmps89
  go_wp2_with fail
  go_loopw [3, 8] (fun s3 s8 wr => ∃ k : Nat, k ≤ L.length ∧ s8 = .int .i64 (k : Int) ∧ OwnS wr w.heap.size s3 (L.take k) ∧ Below w.heap.size w wr)
    (fun _ s8 _ => L.length - (intOf s8).toNat)
  case atStart => exact ⟨0, Nat.zero_le _, rfl, OwnS.nil _ _, Below.refl _ _⟩
  case round =>
    obtain ⟨k, hk, rfl, hown, hB⟩ := hrel
    by_cases hp : k < L.length
    · obtain ⟨g, rfl, hg2, hg3, hg4⟩ := LK.out k hp
      have kc : wr.cell? ⟨g, k, none⟩ = some (.string (L[k]'hp)) := by rw [(bcell hB).1 g k hg2]; exact hg4
      have hkn : (k : Int) < (L.length : Int) := by omega
      have hk0 : (0 : Int) ≤ (k : Int) := by omega
      have zk := HZ.out _ (List.getElem_mem hp)
      clear hg4
      have hfl : (L.take k).length ≤ 4096 := by rw [List.length_take]; omega
      have hbz := hB.size
      have HS := Lib.hid (List.take_succ_eq_append_getElem hp)
      generalize L[k]'hp = z at *
      generalize L.take k = M at *
      go_wp2_with (first | (go_at_call 96; refine (strings_Clone _ _ (by omega)).mono ?_; rintro e w1 ⟨rfl, b1⟩; have hown1 : OwnS w1 w.heap.size u3 M := own_below hown b1; have b1z := b1.size) | (at_builtin; refine wpList_append_own _ rfl _ _ 41 rfl w.heap.size 9 i0 (.string ⟨#[]⟩) 1 16 Tryz.underlying41 hi hz0 hz1 hz2 rfl (by decide) _ _ _ rfl (World.ownsRow.alloc hown1 _) ⟨_, 0, none⟩ 1 1 [.string z] rfl rfl (cell_new _ _ _) (by intro u hu; simp at hu; subst hu; rfl) (by unfold maxLen; omega) (by omega) (by simp; omega) ?_; intro v' w3 hown' hgrow _))
      go_roundw
      case rel =>
        refine ⟨k + 1, by omega, by go_num, ?_, ?_⟩
        · rw [HS.out]
          unfold OwnS
          rw [List.length_append, List.map_append]
          exact hown'
        · exact ((hB.then b1).alloc (by omega) _).grown hgrow (by simp; omega) (fun q hq => (hown1.lt q hq).1)
      case measure => simp [intOf]; omega
    · obtain rfl : k = L.length := by omega
      have hkn : ¬ (L.length : Int) < (L.length : Int) := by omega
      rw [List.take_length] at hown
      go_wp2_with fail
      go_ret
      exact ⟨_, rfl, hown, hB⟩

end Go.Proofs.YtfipbnognjepkaaGreatDoor
