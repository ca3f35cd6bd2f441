/- Slices that a call made: kept by later calls; read, written, turned into a text. -/
import Derived.Test.YtfipbnognjepkaaGreatDoorWords
import Derived.Test.YtfipbnognjepkaaGreatDoorComPlain
import Derived.Lib.BufferRead
import Derived.Laws.IdiomStrings
import Derived.Lib.OthersKept
import Derived.WalkSmall
namespace Go.Proofs.YtfipbnognjepkaaGreatDoor
set_option linter.unusedVariables false
open Go.RowKit

/-- What a slice of the call's own is: nil and empty, or at the head of a row. -/
theorem own_forms {w : World} {B : Nat} {e : TypeId} {v : Value} {xs : List Value} {n : Nat} (h : w.ownsRow B e 1 v n xs) :
    (v = .slice none 0 0 ∧ n = 0 ∧ xs = []) ∨ ∃ g cap, v = .slice (some ⟨g, 0, none⟩) n cap ∧ B ≤ g ∧ g < w.heap.size ∧ n ≤ cap ∧ n ≤ maxLen ∧ (∀ j, j < n → w.cell? ⟨g, j, none⟩ = xs[j]?) ∧ (∀ j, w.frozen? ⟨g, j, none⟩ = false) := by
  have h0 := h
  obtain ⟨hl, h1 | ⟨g, cap, cur, rfl, hg, hh, hn, hc, hcs, hx⟩⟩ := h
  · obtain ⟨rfl, rfl⟩ := h1
    exact .inl ⟨rfl, rfl, List.eq_nil_of_length_eq_zero (by simpa using hl)⟩
  · exact .inr ⟨g, cap, rfl, hg, (Array.getElem?_eq_some_iff.1 hh).1, hn, Nat.le_trans hn hc, fun j hj => h0.cellAt j (by omega), fun j => h0.frozenAt j⟩

/-- A later call keeps it. -/
theorem own_below {w w' : World} {B : Nat} {e : TypeId} {v : Value} {xs : List Value} {n : Nat} (h : w.ownsRow B e 1 v n xs) (hB : Below w.heap.size w w') : w'.ownsRow B e 1 v n xs := by
  obtain ⟨hl, h1 | ⟨g, cap, cur, rfl, hg, hh, r⟩⟩ := h
  · exact ⟨hl, .inl h1⟩
  · exact ⟨hl, .inr ⟨g, cap, cur, rfl, hg, by rw [hB.block g (Array.getElem?_eq_some_iff.1 hh).1]; exact hh, r⟩⟩

theorem own_base {w : World} {B B' : Nat} {e : TypeId} {v : Value} {xs : List Value} {n : Nat} (h : w.ownsRow B e 1 v n xs) (hB : B' ≤ B) : w.ownsRow B' e 1 v n xs := by
  obtain ⟨hl, h1 | ⟨g, cap, cur, rfl, hg, r⟩⟩ := h
  · exact ⟨hl, .inl h1⟩
  · exact ⟨hl, .inr ⟨g, cap, cur, rfl, by omega, r⟩⟩

/-- An owned row stays while an iterator, in whatever block, is moved on. -/
theorem ownsRow_iterAt' {w : World} {base : Nat} {e : TypeId} {v : Value} {n : Nat} {xs : List Value} (h : w.ownsRow base e 1 v n xs) {k : Nat} {s : ByteArray} {p : Nat} (hk : w.heap[k]? = some (.stringIter s p)) (p' : Nat) : (w.iterAt k s p').ownsRow base e 1 v n xs := by
  obtain ⟨hl, h1 | ⟨g, cap, cur, rfl, hg, hh, r⟩⟩ := h
  · exact ⟨hl, .inl h1⟩
  · refine ⟨hl, .inr ⟨g, cap, cur, rfl, hg, ?_, r⟩⟩
    rw [Lib.iterAt_other]
    · exact hh
    · intro e1
      rw [e1, hk] at hh
      cases hh

/-- The text of a slice of bytes that the call made. -/
theorem text_of_own {w : World} {B : Nat} {v : Value} {l : List UInt8} (h : w.ownsRow B 5 1 v l.length (Lib.byteCells l)) :
    (convert 22 9 v).run Tryz.prog w = .ok (.string ⟨l.toArray⟩) w := by
  obtain ⟨hl, ⟨rfl, h1⟩ | ⟨g, cap, cur, rfl, hg, hh, hn, hc, hcs, hx⟩⟩ := h
  · have : l = [] := List.eq_nil_of_length_eq_zero h1
    subst this
    exact Lib.run_convert_nil_bytes w _ _ 5 0 Tryz.underlying22 Tryz.underlying5 Tryz.underlying9
  · exact run_convert_bytes_back w _ _ 5 _ _ l Tryz.underlying22 Tryz.underlying5 Tryz.underlying9 (Lib.bytes_of_row hh (by simpa using hx))

theorem infoU8 : (Tryz.prog.info? 5).map (fun i => (i.zero, i.size, i.bytes)) = some (some (.int .u8 0), 1, 1) := by kernel_rfl

/-- The cell of a new block of one value. -/
theorem cell_new (w : World) (v : Value) (t : TypeId) : ∀ j u, [v][j]? = some u → (w.alloc (.cells #[v] t)).cell? ((⟨w.heap.size, 0, none⟩ : Addr).add j) = some u := by
  intro j u hj
  match j, hj with
  | 0, hj => simp at hj; subst hj; simp [Addr.add, World.cell?_alloc_new]

theorem bytes_snoc (l : List UInt8) (k : Nat) (h : k < l.length) : Lib.byteCells (l.take k) ++ [Value.int .u8 ((l[k]'h).toNat : Int)] = Lib.byteCells (l.take (k + 1)) := by
  rw [List.take_succ_eq_append_getElem h, Lib.byteCells_append]; rfl

set_option maxRecDepth 100000 in
set_option maxHeartbeats 1000000 in
theorem l01Reversed_any (x : ByteArray) (w : World) (sx : x.size ≤ 60) :
    Calls Tryz.prog 174 #[.string x] w fun e w' => e = .returned (.string (rev x)) ∧ Below w.heap.size w w' := by
  obtain ⟨i0, hi, hz0, hz1, hz2⟩ := info_parts infoU8
  have hsz := rev_size x
  have hlen : (rev x).data.toList.length = x.size := by rw [← hsz]; rfl
  have HL := Lib.hid hlen
  clear hlen hsz
  go_enter Tryz.func174, Tryz.ntmps174
  go_wp2
  go_loopw [3, 4] (fun v i wr => ∃ k : Nat, k ≤ x.size ∧ i = .int .i64 ((x.size : Int) - 1 - k) ∧ wr.ownsRow w.heap.size 5 1 v k (Lib.byteCells ((rev x).data.toList.take k)) ∧ Below w.heap.size w wr)
    (fun _ i _ => (intOf i + 1).toNat)
  case atStart =>
    refine ⟨0, Nat.zero_le _, by simp, ?_, Below.new _ _⟩
    exact World.ownsRow_lit w #[] 0 (Nat.le_refl _) (by decide) (by simp)
  case round =>
    rename_i u3 _
    obtain ⟨k, hk, rfl, hown, hB⟩ := hrel
    by_cases h1 : k < x.size
    · have hk2 : k < (rev x).data.toList.length := by rw [HL.out]; exact h1
      have hgt : (rev x).data.toList[k]'hk2 = x[x.size - 1 - k]'(by omega) := rev_get x k (by rw [rev_size]; exact h1) (by omega)
      have hsn := bytes_snoc (rev x).data.toList k hk2
      rw [hgt] at hsn
      have HS := Lib.hid hsn
      have e5 : (0 : Int) ≤ (x.size : Int) - 1 - k := by omega
      have hix : ∀ W, (Instr.index 9 (.string x) (.int .i64 ((x.size : Int) - 1 - k))).run Tryz.prog W = .ok (.int .u8 ((x[x.size - 1 - k]'(by omega)).toNat : Int)) W := fun W => index_at x _ _ (by omega) (by omega) W
      have hbz := hB.size
      clear hsn hgt hk2
      go_wp2_with (at_builtin; refine wpList_append_own _ rfl _ _ 22 rfl w.heap.size 5 i0 (.int .u8 0) 1 1 Tryz.underlying22 hi hz0 hz1 hz2 rfl (by decide) _ _ _ rfl (hown.alloc _) ⟨wr.heap.size, 0, none⟩ 1 1 [.int .u8 ((x[x.size - 1 - k]'(by omega)).toNat : Int)] rfl rfl (cell_new _ _ _) (by intro u hu; simp at hu; subst hu; rfl) (by unfold maxLen; omega) (by omega) (by simp; omega) ?_; intro v' w1 hown' hgrow _)
      go_roundw
      case rel =>
        refine ⟨k + 1, by omega, by go_num, ?_, ?_⟩
        · rw [← HS.out]; exact hown'
        · exact (hB.alloc hB.size _).grown hgrow (by simp; omega) (fun q hq => (hown.lt q hq).1)
      case measure => simp [intOf]; omega
    · have hke : k = x.size := by omega
      subst hke
      have hcv : (convert 22 9 u3).run Tryz.prog wr = .ok (.string (rev x)) wr := by
        have h2 := hown
        rw [List.take_of_length_le (by rw [HL.out]; exact Nat.le_refl _)] at h2
        have h3 : wr.ownsRow w.heap.size 5 1 u3 (rev x).data.toList.length (Lib.byteCells (rev x).data.toList) := by rw [HL.out]; exact h2
        have := text_of_own h3
        simpa using this
      clear hown
      go_wp2
      go_ret
      exact ⟨rfl, hB⟩

end Go.Proofs.YtfipbnognjepkaaGreatDoor
