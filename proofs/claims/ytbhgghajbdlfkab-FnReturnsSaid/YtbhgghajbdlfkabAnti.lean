/- Antipowers: the program's count at a place; a look into a set of words. -/
import Derived.Test.YtbhgghajbdlfkabAntiPlain
import Derived.Test.YtbhgghajbdlfkabFactorsI
import Derived.Test.YtbhgghajbdlfkabPers
import Derived.Deep.LoopGhost
import Derived.Maps.OwnSet
import Derived.Maps.Views
namespace Go.Proofs.Ytbhgghajbdlfkab
set_option linter.unusedVariables false
set_option linter.unusedSimpArgs false
open Go.RowKit Go.Maps Go.Sort

theorem slice_toA (x : ByteArray) (n : Nat) (h : n ≤ x.size) (W : World) :
    (Instr.slice 9 (.string x) none (some (.int .i64 (n : Int))) none).run Try.prog W = .ok (.string (x.extract 0 n)) W := slice_to x (n : Int) n rfl h W
theorem slice_fromA (x : ByteArray) (n : Nat) (h : n ≤ x.size) (W : World) :
    (Instr.slice 9 (.string x) (some (.int .i64 (n : Int))) none none).run Try.prog W = .ok (.string (x.extract n x.size)) W := slice_from x (n : Int) n rfl h W
theorem extract_tail (x : ByteArray) (j m : Nat) (h : j + m ≤ x.size) : (x.extract j x.size).extract 0 m = x.extract j (j + m) := by
  rw [ByteArray.extract_extract]
  congr 1
  omega
theorem extract_tail2 (x : ByteArray) (j m : Nat) (h : j + m ≤ x.size) : (x.extract j x.size).extract m (x.size - j) = x.extract (j + m) x.size := by
  rw [ByteArray.extract_extract]
  congr 1
  omega

theorem isMap_setW (ws : List ByteArray) : IsMap (setW ws) := by
  rcases List.eq_nil_or_concat ws with rfl | ⟨L, b, rfl⟩
  · exact isMap_empty
  · rw [List.concat_eq_append, setW_snoc]
    rcases List.eq_nil_or_concat L with rfl | ⟨L2, b2, rfl⟩
    · exact isMap_empty.put _ _
    · exact (isMap_setW (L2.concat b2)).put _ _
termination_by ws.length
theorem at_setW (ws : List ByteArray) (y : ByteArray) : (setW ws).atKey (.string y.data.toList) (.lit (.bool false)) = .lit (.bool (inL y ws)) := by
  rcases List.eq_nil_or_concat ws with rfl | ⟨L, s, rfl⟩
  · rfl
  · rw [List.concat_eq_append, setW_snoc]
    by_cases h : y.data.toList = s.data.toList
    · rw [h, atKey_put_same (isMap_setW L) (show WideAt.IsKeyLit (.string s.data.toList) from trivial)]
      have : inL y (L ++ [s]) = true := (inL_iff _ _).2 (by rw [bytes_inj h]; simp)
      rw [this]
    · rw [atKey_put_other (by intro e; injection e with e; exact h e), at_setW L y]
      have : inL y (L ++ [s]) = inL y L := by
        unfold inL
        rw [List.any_append]
        simp only [List.any_cons, List.any_nil, Bool.or_false]
        rw [decide_eq_false (fun e => h (by rw [e])), Bool.or_false]
      rw [this]
termination_by ws.length
set_option maxRecDepth 100000 in
theorem plainBool_inv {v : Value} {b : Bool} {ps : List MemPlace} (h : plainElem (H := Unit) Try.prog 4 v = some (.lit (.bool b), ps)) : v = .bool b := by
  unfold plainElem at h
  rw [Try.underlying4] at h
  cases v <;> simp at h
  obtain ⟨rfl, _⟩ := h
  rfl
theorem look_setW {w : World} {b n : Nat} {ws : List ByteArray} (hown : w.ownsMap Try.prog 9 (plainElem (H := Unit) Try.prog 4) b n (setW ws)) (y : ByteArray) (hy : y.size ≤ maxLen) :
    (Instr.lookup 90 (.map (some b)) (.string y) false).run Try.prog w = .ok (.bool (inL y ws)) w := by
  obtain ⟨v, ps, hrun, hv⟩ := hown.lookup (string_keyed Try.underlying9) Try.underlying90 (Try.zeroValue4 w) (plainElem_bool (H := Unit) Try.underlying4 false) (keyStr hy)
  rw [at_setW] at hv
  rw [plainBool_inv hv] at hrun
  exact hrun
theorem has_setW_false {ws : List ByteArray} {y : ByteArray} (h : inL y ws = false) : has (setW ws) (.string y.data.toList) = false := by
  apply Bool.eq_false_iff.2
  intro hh
  obtain ⟨s, hs, e⟩ := (has_setW ws y.data.toList).1 hh
  have : inL y ws = true := (inL_iff _ _).2 (by rw [bytes_inj e]; exact hs)
  rw [h] at this
  cases this

set_option maxRecDepth 100000 in
set_option maxHeartbeats 1000000 in
theorem antipowerAhead_any (x : ByteArray) (i m : Nat) (w : World) (hx : x.size ≤ 60) (hi : i ≤ x.size) (hm : 1 ≤ m) (hm2 : m ≤ 60) :
    Calls Try.prog 82 #[.string (x.extract i x.size), .int .i64 (m : Int)] w fun e w' => e = .returned (.int .i64 (antiK x m i : Int)) ∧ Below w.heap.size w w' := by
  have hmm := @run_makeMap Try.prog
  have HM : Hid ((antiL x m 61 i []).length = antiK x m i) := Lib.hid rfl
  generalize antiK x m i = K at *
  generalize hAE : antiL x m 61 i [] = A at *
  go_enter Try.func82, Try.ntmps82
  go_wp2
  go_loopg [0] 61 (fun gk s wr => ∃ (j : Nat) (seen : List ByteArray) (t : ByteArray), seen.length + gk = 61 ∧ j = i + seen.length * m ∧ j ≤ x.size ∧ s = .string t ∧ Hid (t = x.extract j x.size) ∧ t.size = x.size - j ∧ Hid (antiL x m gk j seen = A) ∧ Hid (Maps.size (setW seen) = seen.length) ∧ wr.ownsMap Try.prog 9 (plainElem (H := Unit) Try.prog 4) w.heap.size seen.length (setW seen) ∧ Below w.heap.size w wr)
  case atStart =>
    refine ⟨i, [], _, rfl, by simp, hi, rfl, Lib.hid rfl, by simp, Lib.hid hAE, Lib.hid rfl, World.ownsMap_made w Try.prog 9 (plainElem (H := Unit) Try.prog 4), Below.new _ _⟩
  case round =>
    clear hAE
    obtain ⟨j, seen, t, hsl, hj, hjx, rfl, HT, hts, HA, HZ, hown, hB⟩ := hrel
    have HJ := Lib.hid (And.intro hsl hj)
    by_cases hp : j + m ≤ x.size
    · have hlen : seen.length ≤ 60 := by
        have : seen.length * 1 ≤ seen.length * m := Nat.mul_le_mul_left _ hm
        omega
      obtain ⟨gq, rfl⟩ : ∃ gq, gk = gq + 1 := ⟨gk - 1, by omega⟩
      have hmt : m ≤ t.size := by omega
      have hge : (m : Int) ≤ (t.size : Int) := by omega
      have hs1 := fun W => slice_toA t m hmt W
      have hs2 := fun W => slice_fromA t m hmt W
      have HY : Hid (t.extract 0 m = x.extract j (j + m)) := Lib.hid (by rw [HT.out, extract_tail x j m hp])
      have HY2 : Hid (t.extract m t.size = x.extract (j + m) x.size) := Lib.hid (by rw [hts, HT.out, extract_tail2 x j m hp])
      have hys : (t.extract 0 m).size = m := by simp; omega
      have hy2 : (t.extract m t.size).size = x.size - (j + m) := by simp; omega
      have hlk := look_setW hown (t.extract 0 m) (by rw [hys]; unfold maxLen; omega)
      clear hsl hj hts
      cases hin : inL (t.extract 0 m) seen with
      | false =>
        have HF := Lib.hid hin
        rw [hin] at hlk
        have hkey := keyStr (s := t.extract 0 m) (by rw [hys]; unfold maxLen; omega)
        obtain ⟨w3, hrun, hown3, hgr⟩ := hown.update (string_keyed Try.underlying9) Try.underlying90 (show seen.length < maxLen by unfold maxLen; omega) hkey (plainElem_bool (H := Unit) Try.underlying4 true)
        have HSZ : Hid (Maps.size (setW (seen ++ [t.extract 0 m])) = seen.length + 1) := Lib.hid (by
          rw [setW_snoc, size_put (hown.tidy (string_keyed Try.underlying9)), has_setW_false HF.out, if_neg (by decide), HZ.out])
        rw [← setW_snoc] at hown3
        have HA2 : Hid (antiL x m gq (j + m) (seen ++ [t.extract 0 m]) = A) := Lib.hid (by rw [HY.out, ← antiL_step x m j gq seen hp (by rw [← HY.out]; exact HF.out)]; exact HA.out)
        have hB3 : Below w.heap.size w w3 := hB.grown hgr hB.size (fun k e => by cases e; exact Nat.le_refl _)
        clear hkey hin hown hlen
        generalize t.extract 0 m = y at *
        generalize t.extract m t.size = t2 at *
        go_wp2
        go_roundg gq
        case measure => omega
        case rel =>
          refine ⟨j + m, seen ++ [y], t2, ?_, ?_, by omega, rfl, HY2, hy2, HA2, ?_, ?_, hB3⟩
          · have := HJ.out.1; simp; omega
          · have := HJ.out.2; simp; rw [Nat.add_mul]; omega
          · exact Lib.hid (by rw [HSZ.out]; simp)
          · simpa using hown3
      | true =>
        have HF := Lib.hid hin
        rw [hin] at hlk
        have HE : Hid (seen = A) := Lib.hid (by
          rw [← HA.out, antiL_stop x m j seen (fun k => by rw [← HY.out, HF.out] at k; exact absurd k.2 (by decide))])
        have hln := hown.len Try.underlying90
        rw [HZ.out] at hln
        clear hin hown hlen
        generalize t.extract 0 m = y at *
        go_wp2
        go_ret
        have e9 : seen.length = K := by rw [HE.out]; exact HM.out
        exact ⟨by rw [← e9]; rfl, hB⟩
    · have HE : Hid (seen = A) := Lib.hid (by rw [← HA.out, antiL_stop x m j seen (fun k => hp k.1)])
      have hge : ¬ (m : Int) ≤ (t.size : Int) := by omega
      have hln := hown.len Try.underlying90
      rw [HZ.out] at hln
      clear hown hsl hj
      go_wp2
      go_ret
      have e9 : seen.length = K := by rw [HE.out]; exact HM.out
      exact ⟨by rw [← e9]; rfl, hB⟩

end Go.Proofs.Ytbhgghajbdlfkab
