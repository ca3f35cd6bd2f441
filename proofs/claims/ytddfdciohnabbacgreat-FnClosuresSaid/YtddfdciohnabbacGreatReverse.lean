/- Words reversed: the program and the model. -/
import Derived.Test.YtddfdciohnabbacGreatInts
import Derived.RegionTactic
import Derived.ChangeAlike
namespace Go.Proofs.YtddfdciohnabbacGreat
set_option linter.unusedVariables false
set_option linter.unusedSimpArgs false
open Go.RowKit

def revR (x : ByteArray) : ByteArray × Int := if ¬ IsW x then (tE, 1) else (rev x, 0)
theorem revR_bad {x : ByteArray} (h : ¬ IsW x) : revR x = (⟨#[]⟩, 1) := if_pos h
theorem revR_ok {x : ByteArray} (h : IsW x) : revR x = (rev x, 0) := by unfold revR; rw [if_neg (not_not_intro h)]

theorem _root_.Go.World.grownBy.trans_drew {w w' : World} {r : Option Nat} (h : w.grownBy w' r) : w.grownBy w'.drew r := ⟨h.os, h.tape, h.output, h.size, h.block⟩
theorem two_sets {w : World} {g i j : Nat} {v u x y : Value} (hi : w.cell? ⟨g, i, none⟩ = some x) (hj : w.cell? ⟨g, j, none⟩ = some y) (hij : i ≠ j) (p : Nat) :
    ((w.setCell ⟨g, i, none⟩ v).setCell ⟨g, j, none⟩ u).cell? ⟨g, p, none⟩ = if p = j then some u else if p = i then some v else w.cell? ⟨g, p, none⟩ := by
  have ne : ∀ {a b : Nat}, a ≠ b → (⟨g, a, none⟩ : Addr) ≠ ⟨g, b, none⟩ := fun h e => h (by injection e)
  by_cases h1 : p = j
  · subst h1
    rw [if_pos rfl]
    exact World.cell?_setCell_same _ _ _ (u := y) (by rw [World.cell?_setCell_other (h := ne hij)]; exact hj)
  · rw [if_neg h1, World.cell?_setCell_other (h := ne (Ne.symm h1))]
    by_cases h2 : p = i
    · subst h2
      rw [if_pos rfl]
      exact World.cell?_setCell_same _ _ _ (u := x) hi
    · rw [if_neg h2, World.cell?_setCell_other (h := ne (Ne.symm h2))]

/-- The byte at place p of n when the first i pairs have been exchanged. -/
def rvk (l : List UInt8) (i p : Nat) : Int := if p < i ∨ l.length ≤ p + i then ((l.getD (l.length - 1 - p) 0).toNat : Int) else ((l.getD p 0).toNat : Int)

set_option maxRecDepth 100000 in
set_option maxHeartbeats 2000000 in
theorem reverse_any (g cap : Nat) (l : List UInt8) (w : World) (hg : g < w.heap.size) (hl : l.length ≤ 60) (hc : l.length ≤ cap)
    (cell : ∀ p, p < l.length → w.cell? ⟨g, p, none⟩ = some (.int .u8 ((l.getD p 0).toNat : Int))) (fz : ∀ p, p < l.length → w.frozen? ⟨g, p, none⟩ = false) :
    Calls Tryz.prog 60 #[.slice (some ⟨g, 0, none⟩) l.length cap] w fun e w' => e = .returned (.tuple #[]) ∧ (∀ p, p < l.length → w'.cell? ⟨g, p, none⟩ = some (.int .u8 ((l.getD (l.length - 1 - p) 0).toNat : Int))) ∧ w.grownBy w' (some g) := by
  have C := Lib.hid cell
  have Z := Lib.hid fz
  clear cell fz
  generalize hN : l.length = N at *
  have HN := Lib.hid hN
  clear hN
  go_enter Tryz.func60, Tryz.ntmps60
  go_wp2
  go_loopw [2, 3] (fun i j wr => ∃ k : Nat, k ≤ N ∧ i = .int .i64 k ∧ j = .int .i64 ((N : Int) - 1 - k) ∧ 2 * k ≤ N + 1 ∧ Hid (∀ p, p < N → wr.cell? ⟨g, p, none⟩ = some (.int .u8 (rvk l k p))) ∧ Hid (∀ p, p < N → wr.frozen? ⟨g, p, none⟩ = false) ∧ w.grownBy wr (some g))
    (fun i j _ => ((intOf j) - (intOf i) + 2).toNat)
  case atStart =>
    refine ⟨0, Nat.zero_le _, rfl, by simp, by omega, Lib.hid fun p hp => ?_, Z, grown_refl _ _⟩
    rw [C.out p hp]
    have := HN.out
    unfold rvk
    rw [if_neg (by omega)]
  case round =>
    obtain ⟨k, hk, rfl, rfl, hk2, hC, hZ, hG⟩ := hrel
    by_cases hlt : 2 * k + 1 < N
    · obtain ⟨m, hm⟩ : ∃ m : Nat, (N : Int) - 1 - k = m := ⟨N - 1 - k, by omega⟩
      have hmk : k < m := by omega
      have hmN : m < N := by omega
      have c1 := hC.out k (by omega)
      have c2 := hC.out m hmN
      have f1 := hZ.out k (by omega)
      have f2 := hZ.out m hmN
      generalize hz1 : rvk l k k = z1 at c1
      generalize hz2 : rvk l k m = z2 at c2
      have HZ1 := Lib.hid hz1
      have HZ2 := Lib.hid hz2
      have HM := Lib.hid hm
      have hcc : m < cap := by omega
      rw [hm]
      clear hz1 hz2 hm
      go_wp2
      go_region
      all_goals
        go_wp2
        go_roundw
        case rel =>
          have hm := HM.out
          have hn := HN.out
          refine ⟨k + 1, by omega, by go_num, by go_num, by omega, Lib.hid fun p hp => ?_, Lib.hid fun p hp => ?_, ?_⟩
          · rw [World.cell?_drew, two_sets c1 c2 (by omega) p]
            by_cases e1 : p = m
            · subst e1
              rw [if_pos rfl, ← HZ1.out]
              unfold rvk
              rw [if_neg (by omega), if_pos (by omega), show l.length - 1 - p = k by omega]
            · rw [if_neg e1]
              by_cases e2 : p = k
              · subst e2
                rw [if_pos rfl, ← HZ2.out]
                unfold rvk
                rw [if_neg (by omega), if_pos (by omega), show l.length - 1 - p = m by omega]
              · rw [if_neg e2, hC.out p hp]
                unfold rvk
                by_cases h3 : p < k ∨ l.length ≤ p + k
                · rw [if_pos h3, if_pos (by omega)]
                · rw [if_neg h3, if_neg (by omega)]
          · simpa using hZ.out p hp
          · exact (grown_set (grown_set hG _ _) _ _).trans_drew
        case measure => simp [intOf]; have := HM.out; omega
    · have hd : decide ((k : Int) < (N : Int) - 1 - k) = false := by simp; omega
      go_wp2
      go_end0
      refine ⟨rfl, fun p hp => ?_, hG⟩
      have hn := HN.out
      rw [hC.out p hp]
      unfold rvk
      by_cases h3 : p < k ∨ l.length ≤ p + k
      · rw [if_pos h3, hn]
      · rw [if_neg h3, show N - 1 - p = p by omega]

set_option maxRecDepth 100000 in
set_option maxHeartbeats 2000000 in
theorem impl_ReverseOf (x : ByteArray) (w : World) (sx : x.size ≤ maxLen) :
    Calls Tryz.prog 52 #[.string x] w fun e w' => e = .returned (.tuple #[.string (revR x).1, .int .i64 (revR x).2]) ∧ Below w.heap.size w w' := by
  by_cases h : IsW x
  · rw [revR_ok h]
    have h1 := h.size
    have H := Lib.hid h
    clear h
    go_enter Tryz.func52, Tryz.ntmps52
    go_wp2_with fail
    refine (isWord_yes x _ H.out).mono ?_
    rintro e w1 ⟨rfl, b1⟩
    have hcv := run_bytes_of_string (P := Tryz.prog) w1 9 22 5 x Tryz.underlying9 Tryz.underlying22 Tryz.underlying5
    have hrs : (bytesRow x (grownCap w1 x.size 0 5)).size = x.size + (grownCap w1 x.size 0 5 - x.size) := by unfold bytesRow; rw [Array.size_append, Array.size_map, Array.size_replicate]; rfl
    generalize hcp : grownCap w1 x.size 0 5 = cap at hcv hrs
    have hce : x.size ≤ cap := by rw [← hcp]; exact grownCap_ge _ _ _ _
    clear hcp
    have hlen : x.data.toList.length = x.size := rfl
    have cellf : ∀ p, p < x.size → (w1.drew.alloc (.cells (bytesRow x cap) 5 ((bytesRow x cap).size, (bytesRow x cap).size + 1))).cell? ⟨w1.heap.size, p, none⟩ = some (.int .u8 ((x.data.toList.getD p 0).toNat : Int)) := by
      intro p hp
      have := World.cell?_alloc_mark w1.drew (bytesRow x cap) 5 ((bytesRow x cap).size, (bytesRow x cap).size + 1) p
      rw [show w1.drew.heap.size = w1.heap.size from rfl] at this
      rw [this]
      unfold bytesRow
      have hp' : p < x.data.size := hp
      rw [Array.getElem?_append_left (by rw [Array.size_map]; exact hp'), Array.getElem?_map, Array.getElem?_eq_getElem hp', List.getD_eq_getElem?_getD, List.getElem?_eq_getElem (show p < x.data.toList.length from hp')]
      rfl
    have fzf : ∀ p, p < x.size → (w1.drew.alloc (.cells (bytesRow x cap) 5 ((bytesRow x cap).size, (bytesRow x cap).size + 1))).frozen? ⟨w1.heap.size, p, none⟩ = false := by
      intro p hp
      have hh : (w1.drew.alloc (.cells (bytesRow x cap) 5 ((bytesRow x cap).size, (bytesRow x cap).size + 1))).heap[w1.heap.size]? = some (.cells (bytesRow x cap) 5 ((bytesRow x cap).size, (bytesRow x cap).size + 1)) := heap_alloc_new _ _
      unfold World.frozen?
      rw [hh]
      have : p < (bytesRow x cap).size := by rw [hrs]; omega
      simp
      omega
    have hn : (w1.drew.alloc (.cells (bytesRow x cap) 5 ((bytesRow x cap).size, (bytesRow x cap).size + 1))).heap.size = w1.heap.size + 1 := by simp
    have B2 : Below w.heap.size w (w1.drew.alloc (.cells (bytesRow x cap) 5 ((bytesRow x cap).size, (bytesRow x cap).size + 1))) := (b1.drew).alloc b1.size _
    generalize hW : (w1.drew.alloc (.cells (bytesRow x cap) 5 ((bytesRow x cap).size, (bytesRow x cap).size + 1))) = w2 at *
    have CF := Lib.hid cellf
    have FF := Lib.hid fzf
    have HN := Lib.hid hn
    have hwG := b1.size
    clear cellf fzf hn hW b1 hrs hlen
    generalize hG : w1.heap.size = G at *
    clear hG
    go_wp2_with fail
    refine (reverse_any G cap x.data.toList _ (by have := HN.out; omega) h1 hce CF.out FF.out).mono ?_
    rintro e w3 ⟨rfl, hc3, hg3⟩
    have B3 : Below w.heap.size w w3 := B2.grown hg3 B2.size (fun q hq => by injection hq with hq; omega)
    have hrl : (rev x).data.toList.length = x.size := by rw [← rev_size x]; rfl
    have hcv2 : (convert 22 9 (.slice (some ⟨G, 0, none⟩) x.size cap)).run Tryz.prog w3 = .ok (.string (rev x)) w3 := by
      have h4 := run_convert_bytes_back (P := Tryz.prog) w3 22 9 5 ⟨G, 0, none⟩ cap (rev x).data.toList Tryz.underlying22 Tryz.underlying5 Tryz.underlying9 (by
        intro j hj
        have hj2 : j < x.size := by omega
        have h5 := hc3 j hj2
        rw [show ((⟨G, 0, none⟩ : Addr).add j) = ⟨G, j, none⟩ by simp [Addr.add]; exact fun h => h.symm, h5]
        have h6 : x.data.toList.length - 1 - j < x.data.toList.length := by
          have : x.data.toList.length = x.size := rfl
          omega
        rw [List.getD_eq_getElem?_getD, List.getElem?_eq_getElem h6]
        have h7 := rev_get x j (by rw [rev_size]; exact hj2) (by omega)
        exact congrArg (fun b : UInt8 => some (Value.int .u8 (b.toNat : Int))) h7.symm)
      rw [hrl] at h4
      simpa using h4
    have HC3 := Lib.hid hc3
    clear hc3 hrl hcv
    go_wp2_with fail
    go_ret2
    exact ⟨rfl, B3⟩
  · rw [revR_bad h]
    have H := Lib.hid h
    clear h
    go_enter Tryz.func52, Tryz.ntmps52
    go_wp2_with fail
    refine (isWord_not x _ sx H.out).mono ?_
    rintro e w1 ⟨rfl, b1⟩
    go_wp2_with fail
    go_ret2
    exact ⟨rfl, b1⟩

end Go.Proofs.YtddfdciohnabbacGreat
