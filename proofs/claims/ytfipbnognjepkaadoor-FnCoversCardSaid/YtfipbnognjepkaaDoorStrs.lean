/- Slices of texts: alike, marked, still marked. -/
import Derived.Test.YtfipbnognjepkaaDoorInts
import Derived.Test.YtfipbnognjepkaaDoorMarkPlain
import Derived.Deep.RegionHeld3
namespace Go.Proofs.YtfipbnognjepkaaDoor
set_option linter.unusedVariables false
set_option linter.unusedSimpArgs false
open Go.RowKit

set_option maxRecDepth 100000 in
set_option maxHeartbeats 1000000 in
theorem markText_any (K : Nat) (w : World) (h0 : 0 < K) (h1 : K ≤ 4000000) :
    Calls Tryd.prog 73 #[.int .i64 K] w fun e w' => e = .returned (.string (markT K)) ∧ Below w.heap.size w w' := by
  go_enter Tryd.func73, Tryd.ntmps73
  go_wp2
  go_loopw [0, 3] (fun q o wr => ∃ (k f : Nat) (l : List UInt8) (s : ByteArray), q = .int .i64 k ∧ o = .string s ∧ Hid (s = ⟨l.toArray⟩) ∧ s.size ≤ 10 + (K - k) ∧ k ≤ K ∧ k < f ∧ Hid (digs f k l = digs (K + 1) K []) ∧ Below w.heap.size w wr) (fun q _ _ => (intOf q).toNat)
  case atStart => exact ⟨K, K + 1, [], ⟨#[]⟩, rfl, rfl, Lib.hid rfl, by show 0 ≤ _; omega, Nat.le_refl _, Nat.lt_succ_self _, Lib.hid rfl, Below.refl _ _⟩
  case round =>
    obtain ⟨k, f, l, s, rfl, rfl, HS, hsz, hk, hf, HD, hB⟩ := hrel
    have hB0 := hB.size
    by_cases hp : 0 < k
    · obtain ⟨f, rfl⟩ : ∃ g, f = g + 1 := ⟨f - 1, by omega⟩
      have hb := dig_nat k
      have hcv : (convert 40 9 (.slice (some ⟨wr.heap.size, 0, none⟩) 1 1)).run Tryd.prog (wr.alloc (.cells #[.int .u8 (48 + (k : Int) % 10)] 5)) = .ok (.string ⟨#[UInt8.ofNat (48 + k % 10)]⟩) (wr.alloc (.cells #[.int .u8 (48 + (k : Int) % 10)] 5)) := by
        refine run_convert_bytes_back _ _ _ 5 _ _ [UInt8.ofNat (48 + k % 10)] Tryd.underlying40 Tryd.underlying5 Tryd.underlying9 ?_
        intro j hj
        match j, hj with
        | 0, _ =>
          rw [← hb]
          simp [Addr.add, World.cell?_alloc_new]
      have hst := digs_step (f := f) l hp
      have HST := Lib.hid hst
      have hcs := cons_push (UInt8.ofNat (48 + k % 10)) l
      have HCS := Lib.hid hcs
      have e1 : (⟨#[UInt8.ofNat (48 + k % 10)]⟩ : ByteArray).size = 1 := rfl
      generalize hq : (⟨#[UInt8.ofNat (48 + k % 10)]⟩ : ByteArray) = q at *
      have HQ := Lib.hid hq
      have e2 : q.size ≤ 1 := by omega
      have hqs : (q ++ s).size = q.size + s.size := ByteArray.size_append
      have HQS := Lib.hid hqs
      clear hst hcs hq e1 hb hqs
      go_wp2
      go_roundw
      case rel =>
        exact ⟨k / 10, f, UInt8.ofNat (48 + k % 10) :: l, q ++ s, by go_num, rfl, Lib.hid (by rw [HS.out]; exact HCS.out), by have := HQS.out; omega, by omega, by omega, Lib.hid (by rw [← HST.out]; exact HD.out), hB.alloc hB0 _⟩
      case measure => simp [intOf]; omega
    · obtain rfl : k = 0 := by omega
      have HE : Hid ((⟨#[109]⟩ : ByteArray) ++ s = markT K) := Lib.hid (by rw [HS.out, cons_push, ← digs_zero f l, HD.out]; rfl)
      go_wp2
      go_ret
      exact ⟨by rw [← HE.out]; rfl, hB⟩

theorem infoStr : (Tryd.prog.info? 9).map (fun i => (i.zero, i.size, i.bytes)) = some (some (.string ⟨#[]⟩), 1, 16) := by kernel_rfl

/-- A slice of numbers that a call made: what it reads as. -/
def OwnS (w : World) (B : Nat) (v : Value) (L : List ByteArray) : Prop := w.ownsRow B 9 1 v L.length (L.map (Value.string))
theorem OwnS.below {w w' : World} {B : Nat} {v : Value} {L : List ByteArray} (h : OwnS w B v L) (b : Below w.heap.size w w') : OwnS w' B v L := own_below h b
theorem OwnS.nil (w : World) (B : Nat) : OwnS w B (.slice none 0 0) [] := World.ownsRow_nil _ _ _ _
theorem OwnS.base {w : World} {B B' : Nat} {v : Value} {L : List ByteArray} (h : OwnS w B v L) (hb : B' ≤ B) : OwnS w B' v L := own_base h hb
theorem OwnS.empty {w : World} {B : Nat} {v : Value} (h : OwnS w B v []) : ∃ a c, v = .slice a 0 c := by
  rcases own_forms h with ⟨rfl, _, _⟩ | ⟨g, cap, rfl, _⟩
  · exact ⟨_, _, rfl⟩
  · exact ⟨_, _, rfl⟩
theorem OwnS.row {w : World} {B : Nat} {v : Value} {L : List ByteArray} (h : OwnS w B v L) (hn : 0 < L.length) :
    ∃ g cap, v = .slice (some ⟨g, 0, none⟩) L.length cap ∧ B ≤ g ∧ g < w.heap.size ∧ L.length ≤ cap ∧ L.length ≤ maxLen ∧ (∀ j (hj : j < L.length), w.cell? ⟨g, j, none⟩ = some (.string (L[j]'hj))) ∧ (∀ j, w.frozen? ⟨g, j, none⟩ = false) := by
  rcases own_forms h with ⟨_, h0, _⟩ | ⟨g, cap, rfl, h1, h2, h3, h4, h5, h6⟩
  · omega
  · refine ⟨g, cap, rfl, h1, h2, h3, h4, fun j hj => ?_, h6⟩
    rw [h5 j hj]
    simp [hj]
/-- What a function that hands back a slice of numbers and a code comes to. -/
def RetS (L : List ByteArray) (c : Int) (w : World) (e : Ending) (w' : World) : Prop := ∃ v, e = .returned (.tuple #[v, .int .i64 c]) ∧ OwnS w' w.heap.size v L ∧ Below w.heap.size w w'

set_option maxRecDepth 100000 in
theorem eqS_yes (B1 B2 : Nat) (v1 v2 : Value) (L : List ByteArray) (w : World) (h1 : OwnS w B1 v1 L) (h2 : OwnS w B2 v2 L) :
    Calls Tryd.prog 15 #[v1, v2] w fun e w' => e = .returned (.bool true) ∧ Below w.heap.size w w' := by
  by_cases h0 : L = []
  · subst h0
    obtain ⟨a1, c1, rfl⟩ := h1.empty
    obtain ⟨a2, c2, rfl⟩ := h2.empty
    clear h1 h2
    go_enter Tryd.func15, Tryd.ntmps15
    go_wp2
    refine wp_loop_rounds 1 ?_
    rw [rounds_succ]
    go_wp2
    go_ret
    exact ⟨rfl, Below.refl _ _⟩
  · have hn : 0 < L.length := List.length_pos_iff.2 h0
    obtain ⟨g1, c1, rfl, _, hg1, hc1, hm, cell1, _⟩ := h1.row hn
    obtain ⟨g2, c2, rfl, _, hg2, hc2, _, cell2, _⟩ := h2.row hn
    unfold maxLen at hm
    have C1 := Lib.hid cell1
    have C2 := Lib.hid cell2
    clear h1 h2 cell1 cell2 h0
    go_enter Tryd.func15, Tryd.ntmps15
    go_wp2
    go_loopw [5] (fun i wr => ∃ k : Nat, k ≤ L.length ∧ i = .int .i64 k ∧ Below w.heap.size w wr) (fun i _ => L.length - (intOf i).toNat)
    case atStart => exact ⟨0, Nat.zero_le _, rfl, Below.refl _ _⟩
    case round =>
      obtain ⟨k, hk, rfl, hB⟩ := hrel
      by_cases hp : k < L.length
      · have k1 : wr.cell? ⟨g1, k, none⟩ = some (.string (L[k]'hp)) := by rw [(bcell hB).1 g1 k hg1]; exact C1.out k hp
        have k2 : wr.cell? ⟨g2, k, none⟩ = some (.string (L[k]'hp)) := by rw [(bcell hB).1 g2 k hg2]; exact C2.out k hp
        have hpc1 : k < c1 := by omega
        have hpc2 : k < c2 := by omega
        generalize L[k]'hp = z at k1 k2
        go_wp2
        go_quiet (fail)
        go_wp2
        go_roundw
        case rel => exact ⟨k + 1, by omega, by go_num, hB.drewN _⟩
        case measure => simp [intOf]; omega
      · go_wp2
        go_ret
        exact ⟨rfl, hB⟩


theorem grown_below {w w' w'' : World} {r : Option Nat} (h : w.grownBy w' r) (b : Below w'.heap.size w' w'') : w.grownBy w'' r :=
  ⟨b.os.trans h.os, b.tape.trans h.tape, b.output.trans h.output, Nat.le_trans h.size b.size, fun k hk hne => (b.block k (Nat.lt_of_lt_of_le hk h.size)).trans (h.block k hk hne)⟩
/-- The numbers from m on. -/
def marksS (m : Nat) (n : Nat) : List ByteArray := (List.range n).map fun (j : Nat) => markT (m + j)
theorem marksS_len (m : Nat) (n : Nat) : (marksS m n).length = n := by simp [marksS]
theorem marksS_get (m : Nat) (n j : Nat) (h : j < (marksS m n).length) : (marksS m n)[j]'h = markT (m + j) := by simp [marksS]
theorem marksS_step (m : Nat) (L : List ByteArray) (k : Nat) (h : k < L.length) : ((marksS m k ++ L.drop k).map (Value.string)).set k (.string (markT (m + k))) = (marksS m (k + 1) ++ L.drop (k + 1)).map (Value.string) := by
  apply List.ext_getElem
  · simp [marksS]; omega
  · intro i h1 h2
    simp only [List.getElem_set, List.getElem_map]
    by_cases e : k = i
    · subst e
      simp [marksS, List.getElem_append]
    · rw [if_neg e]
      congr 1
      simp only [List.getElem_append, marksS_len]
      by_cases h3 : i < k
      · rw [dif_pos h3, dif_pos (by omega)]
        simp [marksS]
      · rw [dif_neg h3, dif_neg (by omega)]
        simp only [List.getElem_drop]
        congr 1
        omega

set_option maxRecDepth 100000 in
theorem markS (B : Nat) (v : Value) (L : List ByteArray) (m : Nat) (w : World) (h : OwnS w B v L) (m0 : 0 < m) (m1 : m ≤ 1100000) (hl : L.length ≤ 1100000) :
    Calls Tryd.prog 16 #[v, .int .i64 (m : Int)] w fun e w' => e = .returned (.int .i64 ((m : Int) + L.length)) ∧ OwnS w' B v (marksS m L.length) ∧ w.grownBy w' v.ownBlock := by
  by_cases h0 : L = []
  · subst h0
    obtain ⟨a1, c1, rfl⟩ := h.empty
    have H := Lib.hid h
    clear h
    go_enter Tryd.func16, Tryd.ntmps16
    go_wp2
    refine wp_loop_rounds 1 ?_
    rw [rounds_succ]
    go_wp2
    go_ret
    exact ⟨by simp, by simpa [marksS] using H.out, grown_refl _ _⟩
  · have hn : 0 < L.length := List.length_pos_iff.2 h0
    obtain ⟨g, c, rfl, hBg, hg, hc, hm, _, _⟩ := h.row hn
    have H := Lib.hid h
    clear h h0
    go_enter Tryd.func16, Tryd.ntmps16
    go_wp2
    go_loopw [1, 5] (fun q i wr => ∃ k : Nat, k ≤ L.length ∧ i = .int .i64 k ∧ q = .int .i64 ((m : Int) + k) ∧ wr.ownsRow B 9 1 (.slice (some ⟨g, 0, none⟩) L.length c) L.length ((marksS m k ++ L.drop k).map (Value.string)) ∧ w.grownBy wr (some g))
      (fun _ i _ => L.length - (intOf i).toNat)
    case atStart => exact ⟨0, Nat.zero_le _, rfl, by simp, by have := H.out; unfold OwnS at this; simpa [marksS] using this, grown_refl _ _⟩
    case round =>
      obtain ⟨k, hk, rfl, rfl, hown, hgr⟩ := hrel
      by_cases hp : k < L.length
      · have k1 : wr.cell? ⟨g, k, none⟩ = some (.string (L[k]'hp)) := by
          rw [hown.cellAt k (by omega)]
          simp [marksS, List.getElem?_append, hp]
        have k2 : wr.frozen? ⟨g, k, none⟩ = false := hown.frozenAt k
        have hst := hown.stored k (.string (markT (m + k)))
        rw [marksS_step m L k hp] at hst
        have HS := Lib.hid hst
        have hpc : k < c := by omega
        generalize L[k]'hp = z at k1
        have HO := Lib.hid hown
        have K1 := Lib.hid k1
        have K2 := Lib.hid k2
        have hgw : g < wr.heap.size := (hown.lt g rfl).2
        clear hst hown k1 k2 HS
        go_wp2_with fail
        have hcast : (m : Int) + k = ((m + k : Nat) : Int) := by omega
        rw [hcast]
        refine (markText_any (m + k) _ (by omega) (by omega)).mono ?_
        rintro e w2 ⟨rfl, b2⟩
        have k1 : w2.cell? ⟨g, k, none⟩ = some (.string z) := by rw [(bcell b2).1 g k hgw]; exact K1.out
        have k2 : w2.frozen? ⟨g, k, none⟩ = false := by rw [(bcell b2).2 g k hgw]; exact K2.out
        have hst := (own_below HO.out b2).stored k (.string (markT (m + k)))
        rw [marksS_step m L k hp] at hst
        have HS := Lib.hid hst
        have hgr2 := grown_below hgr b2
        generalize markT (m + k) = tx at *
        clear hst hcast
        go_wp2_with fail
        go_roundw
        case rel => exact ⟨k + 1, by omega, by go_num, by go_num, HS.out.1, grown_set hgr2 _ _⟩
        case measure => simp [intOf]; omega
      · have hke : k = L.length := by omega
        subst hke
        have HO := Lib.hid hown
        clear hown
        go_wp2
        go_ret
        refine ⟨rfl, ?_, hgr⟩
        have h2 := HO.out
        rw [List.drop_of_length_le (Nat.le_refl _), List.append_nil] at h2
        unfold OwnS
        rw [marksS_len]
        exact h2

set_option maxRecDepth 100000 in
theorem heldS (B : Nat) (v : Value) (n : Nat) (m : Nat) (w : World) (h : OwnS w B v (marksS m n)) (m0 : 0 < m) (m1 : m ≤ 1100000) (hl : n ≤ 1100000) :
    Calls Tryd.prog 17 #[v, .int .i64 (m : Int)] w fun e w' => e = .returned (.int .i64 ((m : Int) + n)) ∧ Below w.heap.size w w' := by
  by_cases h0 : n = 0
  · subst h0
    obtain ⟨a1, c1, rfl⟩ := OwnS.empty (show OwnS w B v [] by simpa [marksS] using h)
    clear h
    go_enter Tryd.func17, Tryd.ntmps17
    go_wp2
    refine wp_loop_rounds 1 ?_
    rw [rounds_succ]
    go_wp2
    go_ret
    exact ⟨by simp, Below.refl _ _⟩
  · have hn : 0 < (marksS m n).length := by rw [marksS_len]; omega
    obtain ⟨g, c, hv, hBg, hg, hc, hm, cell, _⟩ := h.row hn
    rw [marksS_len] at hv hc
    subst hv
    have C := Lib.hid cell
    clear h h0 cell
    go_enter Tryd.func17, Tryd.ntmps17
    go_wp2
    go_loopw [1, 5] (fun q i wr => ∃ k : Nat, k ≤ n ∧ i = .int .i64 k ∧ q = .int .i64 ((m : Int) + k) ∧ Below w.heap.size w wr) (fun _ i _ => n - (intOf i).toNat)
    case atStart => exact ⟨0, Nat.zero_le _, rfl, by simp, Below.refl _ _⟩
    case round =>
      obtain ⟨k, hk, rfl, rfl, hB⟩ := hrel
      by_cases hp : k < n
      · have k1 : wr.cell? ⟨g, k, none⟩ = some (.string (markT (m + k))) := by
          rw [(bcell hB).1 g k hg, C.out k (by rw [marksS_len]; exact hp), marksS_get]
        have hpc : k < c := by omega
        have hcast : (m : Int) + k = ((m + k : Nat) : Int) := by omega
        go_wp2_with fail
        rw [hcast]
        have hw0 : g < wr.heap.size := Nat.lt_of_lt_of_le hg hB.size
        clear hcast
        go_region_held3 (fun w' => w'.cell? ⟨g, k, none⟩ = some (.string (markT (m + k)))) (go_keep) (first | (go_at_call 73; refine (markText_any (m + k) _ (by omega) (by omega)).mono ?_; rintro e w2 ⟨rfl, b2⟩; have hc2 := (bcell b2).1 g k (by simp; omega)))
        go_wp2_with fail
        go_roundw
        case rel => exact ⟨k + 1, by omega, by go_num, by go_num, (hB.drew).then b2⟩
        case measure => simp [intOf]; omega
      · have hke : k = n := by omega
        subst hke
        go_wp2
        go_ret
        exact ⟨rfl, hB⟩

/-- Another slice, in an older block, is kept while one is marked. -/
theorem OwnS.kept {w w' : World} {B B' : Nat} {v u : Value} {L M : List ByteArray} (h : OwnS w B v L) (hu : OwnS w B' u M) (hlt : ∀ k, v.ownBlock = some k → k < B') (hg : w.grownBy w' u.ownBlock) : OwnS w' B v L := by
  refine World.ownsRow.kept h hg ?_
  cases hv : v.ownBlock with
  | none => exact .inl rfl
  | some k =>
    refine .inr fun e => ?_
    have h1 := hlt k hv
    have h2 := (World.ownsRow.lt hu k e.symm).1
    omega
theorem OwnS.lt {w : World} {B : Nat} {v : Value} {L : List ByteArray} (h : OwnS w B v L) : ∀ k, v.ownBlock = some k → B ≤ k ∧ k < w.heap.size := World.ownsRow.lt h
/-- Behind a marking, older blocks stand. -/
theorem below_markedS {W w w' : World} {B : Nat} {v : Value} {L : List ByteArray} (b : Below W.heap.size W w) (h : OwnS w B v L) (hB : W.heap.size ≤ B) (hg : w.grownBy w' v.ownBlock) : Below W.heap.size W w' :=
  b.grown hg b.size fun k e => Nat.le_trans hB (h.lt k e).1

end Go.Proofs.YtfipbnognjepkaaDoor
