/- The letters whose iterates come to nothing: the model. -/
import Derived.Test.YtolboinemechpabGrPlain
import Derived.Test.YtolboinemechpabImg
import Derived.Test.YtolboinemechpabImgS
import Derived.Deep.LoopGhost
namespace Go.Proofs.Ytolboinemechpab
set_option linter.unusedVariables false
set_option linter.unusedSimpArgs false
open Go.RowKit

theorem infoBoolG : (Try.prog.info? 4).map (fun i => (i.zero, i.size, i.bytes)) = some (some (.bool false), 1, 1) := by kernel_rfl
def tabO (n : Nat) (o : Nat → Bool) : List Value := (List.range n).map fun p => Value.bool (o p)
theorem tabO_get (n : Nat) (o : Nat → Bool) (p : Nat) (h : p < n) : (tabO n o)[p]? = some (.bool (o p)) := by simp [tabO, h]
theorem tabO_set (n : Nat) (o : Nat → Bool) (p : Nat) (z : Bool) : (tabO n o).set p (.bool z) = tabO n (fun q => if q = p then z else o q) := by
  apply List.ext_getElem
  · simp [tabO]
  · intro i h1 h2
    rw [List.getElem_set]
    by_cases e : p = i
    · subst e; simp [tabO]
    · rw [if_neg e]
      simp [tabO, Ne.symm e]
theorem tabO_zero (n : Nat) : tabO n (fun _ => false) = List.replicate n (.bool false) := by
  unfold tabO
  rw [List.eq_replicate_iff]
  refine ⟨by rw [List.length_map, List.length_range], fun b hb => ?_⟩
  obtain ⟨s, _, rfl⟩ := List.mem_map.1 hb
  rfl
abbrev TabO (W : World) (B G n : Nat) (o : Nat → Bool) : Prop := W.ownsRow B 4 1 (.slice (some ⟨G, 0, none⟩) n n) n (tabO n o)
theorem TabO.at {W : World} {B G n : Nat} {o : Nat → Bool} (h : TabO W B G n o) {p : Nat} (hp : p < n) : W.cell? ⟨G, p, none⟩ = some (.bool (o p)) := by
  rw [h.cellAt p (by omega)]
  exact tabO_get n o p hp
theorem TabO.set {W : World} {B G n : Nat} {o : Nat → Bool} (h : TabO W B G n o) (p : Nat) (z : Bool) : TabO (W.setCell ⟨G, p, none⟩ (.bool z)) B G n (fun q => if q = p then z else o q) := by
  have := (h.stored p (.bool z)).1
  rwa [tabO_set] at this
/-- All of the first k letters are found. -/
def mvK (l : List UInt8) (o : Nat → Bool) (k : Nat) : Bool := (l.take k).all fun c => o (c.toNat - 97)
theorem mvK_zero (l : List UInt8) (o : Nat → Bool) : mvK l o 0 = true := rfl
theorem mvK_succ {l : List UInt8} {k : Nat} (h : k < l.length) (o : Nat → Bool) : mvK l o (k + 1) = (mvK l o k && o ((l[k]'h).toNat - 97)) := by
  unfold mvK
  rw [List.take_succ_eq_append_getElem h, List.all_append]
  simp
theorem mvK_all {l : List UInt8} {o : Nat → Bool} : mvK l o l.length = true ↔ ∀ c ∈ l, o (c.toNat - 97) = true := by
  unfold mvK
  rw [List.take_length, List.all_eq_true]
theorem MClosed.succ {I : List (List UInt8)} {o : Nat → Bool} {i : Nat} (h : MClosed I o i) (e : (∀ c ∈ I.getD i [], o (c.toNat - 97) = true) → o i = true) : MClosed I o (i + 1) := fun j hj hl ha => by
  by_cases e2 : j = i
  · subst e2; exact e ha
  · exact h j (by omega) hl ha

set_option maxRecDepth 100000 in
set_option maxHeartbeats 4000000 in
theorem l06Mortal_any (B : Nat) (v : Value) (I : List (List UInt8)) (w : World) (h : OwnS w B v (I.map bt)) (g : Mor I) :
    Calls Try.prog 131 #[.agg #[v]] w fun e w' => ∃ G o, e = .returned (.slice (some ⟨G, 0, none⟩) I.length I.length) ∧ TabO w' w.heap.size G I.length o ∧ (∀ i, i < I.length → (o i = true ↔ mort I i)) ∧ Below w.heap.size w w' := by
  obtain ⟨i0, hi, hz0, hz1, hz2⟩ := info_parts infoBoolG
  have h1 := g.len1
  have h5 := g.len5
  obtain ⟨p, cap, rfl, hg, hc, cell⟩ := h.rowM (by omega)
  have BN : Below w.heap.size w (w.alloc (.cells #[.slice (some ⟨p, 0, none⟩) I.length cap] 53)) := Below.new _ _
  have QN : Boxed (w.alloc (.cells #[.slice (some ⟨p, 0, none⟩) I.length cap] 53)) w.heap.size 53 (.slice (some ⟨p, 0, none⟩) I.length cap) := Boxed.new _ _ _
  have hzN : w.heap.size < (w.alloc (.cells #[.slice (some ⟨p, 0, none⟩) I.length cap] 53)).heap.size := by simp
  have G := Lib.hid g
  have C := Lib.hid cell
  clear h cell
  go_enter Try.func131, Try.ntmps131
  go_wp2_with (at_make; refine wpList_make_full _ rfl _ _ 149 rfl w.heap.size 4 i0 (.bool false) 1 Try.underlying149 hi hz0 hz1 .i64 .i64 (I.length : Int) (I.length : Int) I.length rfl rfl rfl rfl (by rw [hz2]; omega) (by unfold maxLen; omega) (Nat.le_of_lt hzN) ?_; intro wm hown hgrow)
  have hown0 : TabO wm w.heap.size (w.heap.size + 1) I.length (fun _ => false) := by
    have h2 := hown
    rw [show (Value.bool false).cells = #[Value.bool false] from rfl, toList_madeCells_one, ← tabO_zero] at h2
    simpa using h2
  have Bm : Below w.heap.size w wm := BN.grown hgrow (Nat.le_of_lt hzN) (fun _ e => by cases e)
  have Qm : Boxed wm w.heap.size 53 (.slice (some ⟨p, 0, none⟩) I.length cap) := QN.kept hgrow (by simp)
  clear hown hgrow BN QN hzN
  generalize hGG : w.heap.size + 1 = M at *
  have hMw : w.heap.size < M := by omega
  go_wp2_with fail
  go_loopg [4] 6 (fun gg s4 wr => ∃ (o : Nat → Bool) (b : Bool), s4 = .bool b ∧ MSound I o ∧ (b = false → MClosed I o I.length) ∧ left o I.length + (if b = true then 1 else 0) ≤ gg ∧ TabO wr w.heap.size M I.length o ∧ Boxed wr w.heap.size 53 (.slice (some ⟨p, 0, none⟩) I.length cap) ∧ Below w.heap.size w wr)
  case atStart => exact ⟨fun _ => false, true, rfl, fun i _ e => (by cases e), fun e => (by cases e), by have := left_le (fun _ => false) I.length; rw [if_pos rfl]; omega, hown0, Qm, Bm⟩
  case round =>
    clear hown0 Bm Qm
    obtain ⟨o, b, rfl, hS, hC, hL, hown, QQ, hB⟩ := hrel
    cases b with
    | false =>
      have HO := Lib.hid fun i (hi : i < I.length) => mort_iff G.out hS (hC rfl) hi
      go_wp2_with fail
      go_ret
      exact ⟨M, rfl, o, hown, HO.out, hB⟩
    | true =>
      rw [if_pos rfl] at hL
      clear hC
      go_wp2_with fail
      go_loopw [4, 5] (fun s4 s5 wr2 => ∃ (i : Nat) (o2 : Nat → Bool) (b : Bool), i ≤ I.length ∧ s5 = .int .i64 (i : Int) ∧ s4 = .bool b ∧ MSound I o2 ∧ (b = false → MClosed I o2 i) ∧ left o2 I.length + (if b = true then 1 else 0) ≤ left o I.length ∧ TabO wr2 w.heap.size M I.length o2 ∧ Boxed wr2 w.heap.size 53 (.slice (some ⟨p, 0, none⟩) I.length cap) ∧ Below w.heap.size w wr2)
        (fun _ s5 _ => I.length - (intOf s5).toNat)
      case atStart => exact ⟨0, o, false, Nat.zero_le _, rfl, rfl, hS, fun _ j hj => by omega, by simp, hown, QQ, hB⟩
      case round =>
        clear hown QQ hB hS
        obtain ⟨i, o2, b, hiI, rfl, rfl, hS, hC, hL2, hown, QQ, hB⟩ := hrel
        by_cases hp : i < I.length
        · have kq := QQ.cell
          have kc : wr.cell? ⟨p, i, none⟩ = some (.string (bt (I[i]'hp))) := by rw [(bcell hB).1 p i hg]; exact C.out i hp
          have hz12 : (bt (I[i]'hp)).size ≤ 12 := (G.out.im i hp).1
          have hsz : (bt (I[i]'hp)).size = (I[i]'hp).length := bt_size _
          have hgd : I.getD i [] = I[i]'hp := by simp [List.getD_eq_getElem?_getD, hp]
          have hlet : ∀ k (hk : k < (I[i]'hp).length), ∃ n : Nat, n < I.length ∧ (((I[i]'hp)[k]'hk).toNat : Int) = (n : Int) + 97 ∧ ((I[i]'hp)[k]'hk).toNat - 97 = n := fun k hk => by
            obtain ⟨e1, e2⟩ := getD_letter G.out hp (c := (I[i]'hp)[k]'hk) (by rw [hgd]; exact List.getElem_mem hk)
            have e3 : lets I (img I (letr i)) := by
              have := hk_lets G.out 1 (lets_one G.out hp)
              rwa [hk_succ, hk_zero, show imgOf I [letr i] = img I (letr i) from by unfold imgOf; simp] at this
            have e4 := (e3 ((I[i]'hp)[k]'hk) (by rw [img_letr G.out hp]; exact List.getElem_mem hk)).1
            exact ⟨_, e2, by omega, rfl⟩
          have HLT := Lib.hid hlet
          clear hlet
          have hic : i < cap := by omega
          have hii : (i : Int) < (I.length : Int) := by omega
          have hi0 : (0 : Int) ≤ (i : Int) := by omega
          have hyget : ∀ k (hk : k < (bt (I[i]'hp)).size), (bt (I[i]'hp))[k]'hk = (I[i]'hp)[k]'(by rw [← hsz]; exact hk) := fun k hk => rfl
          have HYG := Lib.hid hyget
          clear hyget
          go_wp2_with fail
          go_loopw [6, 7] (fun s6 s7 wr3 => wr3 = wr ∧ ∃ k : Nat, k ≤ (I[i]'hp).length ∧ s7 = .int .i64 (k : Int) ∧ s6 = .bool (mvK (I[i]'hp) o2 k))
            (fun _ s7 _ => 12 - (intOf s7).toNat)
          case atStart => exact ⟨rfl, 0, Nat.zero_le _, rfl, rfl⟩
          case round =>
            obtain ⟨rfl, k, hk, rfl, rfl⟩ := hrel
            by_cases hpk : k < (I[i]'hp).length
            · obtain ⟨n1, hn1, e1, e2⟩ := HLT.out k hpk
              have hks : k < (bt (I[i]'hp)).size := by omega
              have hms := mvK_succ hpk o2
              rw [e2] at hms
              rw [← HYG.out k hks] at e1
              have hki : (k : Int) < ((bt (I[i]'hp)).size : Int) := by omega
              have hk0 : (0 : Int) ≤ (k : Int) := by omega
              have co := hown.at hn1
              have hni : (n1 : Int) < (I.length : Int) := by omega
              have hn0 : (0 : Int) ≤ (n1 : Int) := by omega
              have HMS := Lib.hid hms
              clear hms e2
              generalize bt (I[i]'hp) = z at *
              cases hm : mvK (I[i]'hp) o2 k with
              | false =>
                have HMM := Lib.hid hm
                clear hm
                go_wp2_with fail
                exact ⟨⟨trivial, k + 1, by omega, by go_num, by rw [HMS.out, HMM.out]; rfl⟩, by simp [intOf]; omega⟩
              | true =>
                have HMM := Lib.hid hm
                clear hm
                go_wp2_with fail
                exact ⟨⟨trivial, k + 1, by omega, by go_num, by rw [HMS.out, HMM.out, Bool.true_and]⟩, by simp [intOf]; omega⟩
            · obtain rfl : k = (I[i]'hp).length := by omega
              have hall := mvK_all (l := I[i]'hp) (o := o2)
              rw [← hgd] at hall
              rw [hgd] at hall
              have co := hown.at hp
              have fo : wr.frozen? ⟨M, i, none⟩ = false := hown.frozenAt i
              have hki : ¬ ((I[i]'hp).length : Int) < ((bt (I[i]'hp)).size : Int) := by omega
              clear HLT HYG hsz
              cases hm : mvK (I[i]'hp) o2 (I[i]'hp).length with
              | false =>
                have HC2 := Lib.hid fun e => (hC e).succ (i := i) (fun ha => by
                  rw [hgd] at ha
                  rw [hall.2 ha] at hm
                  cases hm)
                clear hm hall hC
                generalize (I[i]'hp).length = len at *
                generalize bt (I[i]'hp) = z at *
                go_wp2_with fail
                exact ⟨⟨i + 1, o2, b, by omega, by go_num, rfl, hS, HC2.out, hL2, hown, QQ, hB⟩, by simp [intOf]; omega⟩
              | true =>
                cases ho : o2 i with
                | true =>
                  have HC2 := Lib.hid fun e => (hC e).succ (i := i) (fun _ => ho)
                  rw [ho] at co
                  clear hm hall hC
                  generalize (I[i]'hp).length = len at *
                  generalize bt (I[i]'hp) = z at *
                  go_wp2_with fail
                  exact ⟨⟨i + 1, o2, b, by omega, by go_num, rfl, hS, HC2.out, hL2, hown, QQ, hB⟩, by simp [intOf]; omega⟩
                | false =>
                  have HS2 := Lib.hid (hS.set G.out hp (by rw [hgd]; exact hall.1 hm))
                  have hle := left_set hp ho
                  have hL3 : left (fun j => if j = i then true else o2 j) I.length + (if true = true then 1 else 0) ≤ left o I.length := by rw [if_pos rfl]; omega
                  have HL3 := Lib.hid hL3
                  have HO3 := Lib.hid (hown.set i true)
                  have HQ3 := Lib.hid (QQ.kept (grown_set (grown_refl wr (some M)) i (.bool true)) (by intro e; injection e with e; omega))
                  have HB3 := Lib.hid (hB.setCell (p := ⟨M, i, none⟩) (by show _ ≤ M; omega) (.bool true))
                  rw [ho] at co
                  clear hm hall hC hle hL3 hL2
                  generalize (I[i]'hp).length = len at *
                  generalize bt (I[i]'hp) = z at *
                  go_wp2_with fail
                  exact ⟨⟨i + 1, _, true, by omega, by go_num, rfl, HS2.out, fun e => (by cases e), HL3.out, HO3.out, HQ3.out, HB3.out⟩, by simp [intOf]; omega⟩
        · obtain rfl : i = I.length := by omega
          have HL4 : left o2 I.length + (if b = true then 1 else 0) ≤ gk - 1 := by omega
          go_wp2_with fail
          go_roundg (gk - 1)
          case measure => omega
          case rel => exact ⟨o2, b, rfl, hS, hC, HL4, hown, QQ, hB⟩

end Go.Proofs.Ytolboinemechpab
