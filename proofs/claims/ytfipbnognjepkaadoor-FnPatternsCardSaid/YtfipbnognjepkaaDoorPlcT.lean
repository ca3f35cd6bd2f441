/- The values of a fit as texts. -/
import Derived.Test.YtfipbnognjepkaaDoorFitD
import Derived.Test.YtfipbnognjepkaaDoorStrs
import Derived.Test.YtfipbnognjepkaaDoorLib
import Derived.Test.YtfipbnognjepkaaDoorDoorT
namespace Go.Proofs.YtfipbnognjepkaaDoor
set_option linter.unusedVariables false
set_option linter.unusedSimpArgs false
open Go.RowKit

/-- A part of the letters as a text. -/
theorem part_text {W : World} {g o n c : Nat} {X : List UInt8} (h : LettersAt W g X) (ho : o + n ≤ X.length) : (convert 40 9 (.slice (some ⟨g, o, none⟩) n c)).run Tryd.prog W = .ok (.string (bt ((X.drop o).take n))) W := by
  have hl : ((X.drop o).take n).length = n := by rw [List.length_take, List.length_drop]; omega
  have q := run_convert_bytes_back (P := Tryd.prog) W 40 9 5 ⟨g, o, none⟩ c ((X.drop o).take n) Tryd.underlying40 Tryd.underlying5 Tryd.underlying9 (by
    intro j hj
    rw [hl] at hj
    have h1 := h.2 (o + j) (by omega)
    have e : ((⟨g, o, none⟩ : Addr).add j) = ⟨g, o + j, none⟩ := by simp [Addr.add]
    rw [e, h1]
    simp)
  rw [hl] at q
  exact q
theorem fit_value {W : World} {B g : Nat} {X : List UInt8} {v : Value} {L : List (List UInt8)} (h : OwnF W B g X v L) : ∃ b, v = .slice (some ⟨b, 0, none⟩) L.length L.length ∧ b < W.heap.size ∧
    ∀ k (hk : k < L.length), ∃ o n, W.cell? ⟨b, k, none⟩ = some (.slice (some ⟨g, o, none⟩) n n) ∧ o + n ≤ X.length ∧ (X.drop o).take n = L[k]'hk := by
  obtain ⟨b, O, rfl, hT, hI, hv⟩ := h
  refine ⟨b, rfl, (hT.lt b rfl).2, fun k hk => ?_⟩
  have hc := hT.at hk
  obtain ⟨h1, h2⟩ := hv k hk
  cases ho : O k with
  | none => rw [ho] at h1; exact absurd h1.symm h2
  | some on =>
    obtain ⟨o, n⟩ := on
    rw [ho] at h1 hc
    exact ⟨o, n, hc, (hI k o n ho).2, h1⟩
theorem snoc_mapT (L : List ByteArray) (z : ByteArray) : L.map Value.string ++ [Value.string z] = (L ++ [z]).map Value.string := by rw [List.map_append]; rfl
theorem map_take_succ {L : List (List UInt8)} {k : Nat} (hk : k < L.length) : (L.take k).map bt ++ [bt (L[k]'hk)] = (L.take (k + 1)).map bt := by
  rw [List.take_succ_eq_append_getElem hk, List.map_append]
  rfl

set_option maxRecDepth 100000 in
set_option maxHeartbeats 2000000 in
theorem texts_any (i : Int) (v : Value) (w : World) (B g : Nat) (X : List UInt8) (L : List (List UInt8)) (h : OwnF w B g X v L) (hL : LettersAt w g X) (hX : X.length ≤ 60) (h3 : L.length ≤ 3) :
    Calls Tryd.prog 72 #[.agg #[.int .i64 i, v]] w fun e w' => ∃ u, e = .returned u ∧ OwnS w' w.heap.size u (L.map bt) ∧ Below w.heap.size w w' := by
  obtain ⟨i0, hi, hz0, hz1, hz2⟩ := info_parts infoStr
  obtain ⟨b, rfl, hb, hcell⟩ := fit_value h
  have HC := Lib.hid hcell
  have HL := Lib.hid hL
  have hg := hL.1
  clear h hcell hL
  have hb0 : Below w.heap.size w (w.alloc (.cells #[.int .i64 i, .slice (some ⟨b, 0, none⟩) L.length L.length] 78)) := Below.new _ _
  go_enter Tryd.func72, Tryd.ntmps72
  go_wp2_with fail
  go_loopw [3, 9] (fun s3 s9 wr => ∃ k : Nat, k ≤ L.length ∧ s9 = .int .i64 (k : Int) ∧ OwnS wr w.heap.size s3 ((L.take k).map bt) ∧ Below w.heap.size w wr) (fun _ s9 _ => L.length - (intOf s9).toNat)
  case atStart => exact ⟨0, Nat.zero_le _, rfl, OwnS.nil _ _, hb0⟩
  case round =>
    obtain ⟨k, hk, rfl, hown, hB⟩ := hrel
    have hbz := hB.size
    by_cases hlt : k < L.length
    · obtain ⟨o, n, hc, hon, hx⟩ := HC.out k hlt
      have hc2 : wr.cell? ⟨b, k, none⟩ = some (.slice (some ⟨g, o, none⟩) n n) := by rw [(bcell hB).1 b k hb]; exact hc
      have hcv := part_text (c := n) (HL.out.past hB) hon
      rw [hx] at hcv
      have hst := map_take_succ hlt
      have hln : ((L.take k).map bt).length = k := by rw [List.length_map, List.length_take]; omega
      have hts : (bt (L[k]'hlt)).size ≤ 60 := by rw [bt_size, ← hx, List.length_take, List.length_drop]; omega
      have HS := Lib.hid hst
      generalize bt (L[k]'hlt) = t at *
      clear hc hx hst
      go_wp2_with fail
      refine (strings_Clone t _ (by omega)).mono ?_
      rintro e w3 ⟨rfl, b3⟩
      have hB3 := hB.then b3
      have hown3 := hown.below b3
      have hbz3 := hB3.size
      clear hown b3
      go_wp2_with (at_builtin; refine wpList_append_own _ rfl _ _ 22 rfl w.heap.size 9 i0 (.string ⟨#[]⟩) 1 16 Tryd.underlying22 hi hz0 hz1 hz2 rfl (by decide) _ _ _ rfl (hown3.alloc _) ⟨_, 0, none⟩ 1 1 [.string t] rfl rfl (cell_new _ _ _) (by intro u hu; simp at hu; subst hu; rfl) (by unfold maxLen; omega) (by omega) (by simp; omega) ?_; intro v' w4 hown' hgrow _)
      go_roundw
      case rel =>
        refine ⟨k + 1, by omega, by go_num, ?_, (hB3.alloc hbz3 _).grown hgrow (by simp; omega) (fun q hq => (hown3.lt q hq).1)⟩
        rw [← HS.out]
        unfold OwnS
        rw [List.length_append, ← snoc_mapT]
        exact hown'
      case measure => simp [intOf]; omega
    · obtain rfl : k = L.length := by omega
      rw [List.take_length] at hown
      have HO := Lib.hid hown
      clear hown
      go_wp2_with fail
      go_ret
      exact ⟨_, rfl, HO.out, hB⟩

set_option maxRecDepth 100000 in
theorem texts_nil (i : Int) (w : World) :
    Calls Tryd.prog 72 #[.agg #[.int .i64 i, .slice none 0 0]] w fun e w' => e = .returned (.slice none 0 0) ∧ Below w.heap.size w w' := by
  have hb0 : Below w.heap.size w (w.alloc (.cells #[.int .i64 i, .slice none 0 0] 78)) := Below.new _ _
  go_enter Tryd.func72, Tryd.ntmps72
  go_wp2_with fail
  refine wp_loop_rounds 1 ?_
  rw [rounds_succ]
  go_wp2_with fail
  go_ret
  exact ⟨rfl, hb0⟩

end Go.Proofs.YtfipbnognjepkaaDoor
