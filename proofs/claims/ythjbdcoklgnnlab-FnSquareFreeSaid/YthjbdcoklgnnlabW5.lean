/- What the law on square free words rests on: contracts, draws and plain facts, merged. -/
import Derived.Test.YthjbdcoklgnnlabInts
import Derived.RegionTactic
import Derived.ChangeAlike
import Derived.Test.YthjbdcoklgnnlabPerPlain
import Derived.Test.YthjbdcoklgnnlabLeast
import Derived.Test.YthjbdcoklgnnlabCountPlain
import Derived.Test.YthjbdcoklgnnlabWordOfPlain
import Derived.Test.YthjbdcoklgnnlabWords
import Derived.Test.YthjbdcoklgnnlabLib
import Derived.Test.YthjbdcoklgnnlabSfPlain
import Derived.Test.YthjbdcoklgnnlabDfsPlain
import Derived.Test.YthjbdcoklgnnlabOverlaps
import Derived.Test.YthjbdcoklgnnlabSfCount
import Derived.WalkKit
import Derived.Deep.RegionWith
import Derived.Deep.LoopGhost
import Derived.Outline
import Derived.Test.YthjbdcoklgnnlabLetter
import Derived.Test.YthjbdcoklgnnlabOwn
import Derived.Test.YthjbdcoklgnnlabPers
import Derived.BigRegion
import Derived.RangeFuncBox
import Derived.Deep.QuietTactic
import Derived.BigQuiet
import Derived.Test.YthjbdcoklgnnlabComPlain
import Derived.Deep.RegionHeld3
import Derived.Test.YthjbdcoklgnnlabShelf
import Derived.Lib.OthersKept
import Derived.Test.YthjbdcoklgnnlabLettersPlain
import Derived.WalkSmall
import Derived.WalkSpells
import Derived.Test.YthjbdcoklgnnlabNext
import Derived.Test.YthjbdcoklgnnlabFacIter
import Derived.Test.YthjbdcoklgnnlabIsLyn
import Derived.Test.YthjbdcoklgnnlabGePlain
import Derived.Test.YthjbdcoklgnnlabLoc
import Derived.Test.YthjbdcoklgnnlabGcd
import Derived.Test.YthjbdcoklgnnlabScopeIn

/-! ### Reverse -/
namespace Go.Proofs.Ythjbdcoklgnnlab
set_option linter.unusedVariables false
set_option linter.unusedSimpArgs false
open Go.RowKit

def revR (x : ByteArray) : ByteArray × Int := if ¬ IsW x then (tE, 1) else (rev x, 0)
theorem revR_bad {x : ByteArray} (h : ¬ IsW x) : revR x = (⟨#[]⟩, 1) := if_pos h
theorem revR_ok {x : ByteArray} (h : IsW x) : revR x = (rev x, 0) := by unfold revR; rw [if_neg (not_not_intro h)]

theorem _root_.Go.World.grownBy.trans_drew {w w' : World} {r : Option Nat} (h : w.grownBy w' r) : w.grownBy w'.drew r := ⟨h.os, h.tape, h.output, h.size, h.block⟩
theorem two_sets {w : World} {g i j : Nat} {v u x y : Value} (hi : w.cell? ⟨g, i, none⟩ = some x) (hj : w.cell? ⟨g, j, none⟩ = some y) (hij : i ≠ j) (p : Nat) :
    ((w.setCell ⟨g, i, none⟩ v).setCell ⟨g, j, none⟩ u).cell? ⟨g, p, none⟩ = if p = j then some u else if p = i then some v else w.cell? ⟨g, p, none⟩ := by
  have ne : ∀ {a b : Nat}, a ≠ b → (⟨g, a, none⟩ : Addr) ≠ ⟨g, b, none⟩ := fun h e => h (by injection e)
  by_cases h1 : p = j
  · subst h1
    rw [if_pos rfl]
    exact World.cell?_setCell_same _ _ _ (u := y) (by rw [World.cell?_setCell_other (h := ne hij)]; exact hj)
  · rw [if_neg h1, World.cell?_setCell_other (h := ne (Ne.symm h1))]
    by_cases h2 : p = i
    · subst h2
      rw [if_pos rfl]
      exact World.cell?_setCell_same _ _ _ (u := x) hi
    · rw [if_neg h2, World.cell?_setCell_other (h := ne (Ne.symm h2))]

/-- The byte at place p of n when the first i pairs have been exchanged. -/
def rvk (l : List UInt8) (i p : Nat) : Int := if p < i ∨ l.length ≤ p + i then ((l.getD (l.length - 1 - p) 0).toNat : Int) else ((l.getD p 0).toNat : Int)

set_option maxRecDepth 100000 in
set_option maxHeartbeats 2000000 in
theorem reverse_any (g cap : Nat) (l : List UInt8) (w : World) (hg : g < w.heap.size) (hl : l.length ≤ 60) (hc : l.length ≤ cap)
    (cell : ∀ p, p < l.length → w.cell? ⟨g, p, none⟩ = some (.int .u8 ((l.getD p 0).toNat : Int))) (fz : ∀ p, p < l.length → w.frozen? ⟨g, p, none⟩ = false) :
    Calls Try.prog 136 #[.slice (some ⟨g, 0, none⟩) l.length cap] w fun e w' => e = .returned (.tuple #[]) ∧ (∀ p, p < l.length → w'.cell? ⟨g, p, none⟩ = some (.int .u8 ((l.getD (l.length - 1 - p) 0).toNat : Int))) ∧ w.grownBy w' (some g) := by
  have C := Lib.hid cell
  have Z := Lib.hid fz
  clear cell fz
  generalize hN : l.length = N at *
  have HN := Lib.hid hN
  clear hN
  go_enter Try.func136, Try.ntmps136
  go_wp2
  go_loopw [2, 3] (fun i j wr => ∃ k : Nat, k ≤ N ∧ i = .int .i64 k ∧ j = .int .i64 ((N : Int) - 1 - k) ∧ 2 * k ≤ N + 1 ∧ Hid (∀ p, p < N → wr.cell? ⟨g, p, none⟩ = some (.int .u8 (rvk l k p))) ∧ Hid (∀ p, p < N → wr.frozen? ⟨g, p, none⟩ = false) ∧ w.grownBy wr (some g))
    (fun i j _ => ((intOf j) - (intOf i) + 2).toNat)
  case atStart =>
    refine ⟨0, Nat.zero_le _, rfl, by simp, by omega, Lib.hid fun p hp => ?_, Z, grown_refl _ _⟩
    rw [C.out p hp]
    have := HN.out
    unfold rvk
    rw [if_neg (by omega)]
  case round =>
    obtain ⟨k, hk, rfl, rfl, hk2, hC, hZ, hG⟩ := hrel
    by_cases hlt : 2 * k + 1 < N
    · obtain ⟨m, hm⟩ : ∃ m : Nat, (N : Int) - 1 - k = m := ⟨N - 1 - k, by omega⟩
      have hmk : k < m := by omega
      have hmN : m < N := by omega
      have c1 := hC.out k (by omega)
      have c2 := hC.out m hmN
      have f1 := hZ.out k (by omega)
      have f2 := hZ.out m hmN
      generalize hz1 : rvk l k k = z1 at c1
      generalize hz2 : rvk l k m = z2 at c2
      have HZ1 := Lib.hid hz1
      have HZ2 := Lib.hid hz2
      have HM := Lib.hid hm
      have hcc : m < cap := by omega
      rw [hm]
      clear hz1 hz2 hm
      go_wp2
      go_region
      all_goals
        go_wp2
        go_roundw
        case rel =>
          have hm := HM.out
          have hn := HN.out
          refine ⟨k + 1, by omega, by go_num, by go_num, by omega, Lib.hid fun p hp => ?_, Lib.hid fun p hp => ?_, ?_⟩
          · rw [World.cell?_drew, two_sets c1 c2 (by omega) p]
            by_cases e1 : p = m
            · subst e1
              rw [if_pos rfl, ← HZ1.out]
              unfold rvk
              rw [if_neg (by omega), if_pos (by omega), show l.length - 1 - p = k by omega]
            · rw [if_neg e1]
              by_cases e2 : p = k
              · subst e2
                rw [if_pos rfl, ← HZ2.out]
                unfold rvk
                rw [if_neg (by omega), if_pos (by omega), show l.length - 1 - p = m by omega]
              · rw [if_neg e2, hC.out p hp]
                unfold rvk
                by_cases h3 : p < k ∨ l.length ≤ p + k
                · rw [if_pos h3, if_pos (by omega)]
                · rw [if_neg h3, if_neg (by omega)]
          · simpa using hZ.out p hp
          · exact (grown_set (grown_set hG _ _) _ _).trans_drew
        case measure => simp [intOf]; have := HM.out; omega
    · have hd : decide ((k : Int) < (N : Int) - 1 - k) = false := by simp; omega
      go_wp2
      go_end0
      refine ⟨rfl, fun p hp => ?_, hG⟩
      have hn := HN.out
      rw [hC.out p hp]
      unfold rvk
      by_cases h3 : p < k ∨ l.length ≤ p + k
      · rw [if_pos h3, hn]
      · rw [if_neg h3, show N - 1 - p = p by omega]

set_option maxRecDepth 100000 in
theorem spec_ReverseOf (x : ByteArray) (w : World) (sx : x.size ≤ maxLen) :
    Calls Try.prog 79 #[.string x] w fun e w' => e = .returned (.tuple #[.string (revR x).1, .int .i64 (revR x).2]) ∧ Below w.heap.size w w' := by
  by_cases h : IsW x
  · rw [revR_ok h]
    have h1 := h.size
    have H := Lib.hid h
    clear h
    go_enter Try.func79, Try.ntmps79
    go_wp2_with fail
    refine (l01Is_yes x _ H.out).mono ?_
    rintro e w1 ⟨rfl, b1⟩
    go_wp2_with fail
    refine (l01Reversed_any x _ h1).mono ?_
    rintro e w2 ⟨rfl, b2⟩
    go_wp2_with fail
    go_ret2
    exact ⟨rfl, b1.then b2⟩
  · rw [revR_bad h]
    have H := Lib.hid h
    clear h
    go_enter Try.func79, Try.ntmps79
    go_wp2_with fail
    refine (l01Is_no x _ sx H.out).mono ?_
    rintro e w1 ⟨rfl, b1⟩
    go_wp2_with fail
    go_ret2
    exact ⟨rfl, b1⟩

set_option maxRecDepth 100000 in
set_option maxHeartbeats 2000000 in
theorem impl_ReverseOf (x : ByteArray) (w : World) (sx : x.size ≤ maxLen) :
    Calls Try.prog 73 #[.string x] w fun e w' => e = .returned (.tuple #[.string (revR x).1, .int .i64 (revR x).2]) ∧ Below w.heap.size w w' := by
  by_cases h : IsW x
  · rw [revR_ok h]
    have h1 := h.size
    have H := Lib.hid h
    clear h
    go_enter Try.func73, Try.ntmps73
    go_wp2_with fail
    refine (isWord_yes x _ H.out).mono ?_
    rintro e w1 ⟨rfl, b1⟩
    have hcv := run_bytes_of_string (P := Try.prog) w1 9 31 5 x Try.underlying9 Try.underlying31 Try.underlying5
    have hrs : (bytesRow x (grownCap w1 x.size 0 5)).size = x.size + (grownCap w1 x.size 0 5 - x.size) := by unfold bytesRow; rw [Array.size_append, Array.size_map, Array.size_replicate]; rfl
    generalize hcp : grownCap w1 x.size 0 5 = cap at hcv hrs
    have hce : x.size ≤ cap := by rw [← hcp]; exact grownCap_ge _ _ _ _
    clear hcp
    have hlen : x.data.toList.length = x.size := rfl
    have cellf : ∀ p, p < x.size → (w1.drew.alloc (.cells (bytesRow x cap) 5 ((bytesRow x cap).size, (bytesRow x cap).size + 1))).cell? ⟨w1.heap.size, p, none⟩ = some (.int .u8 ((x.data.toList.getD p 0).toNat : Int)) := by
      intro p hp
      have := World.cell?_alloc_mark w1.drew (bytesRow x cap) 5 ((bytesRow x cap).size, (bytesRow x cap).size + 1) p
      rw [show w1.drew.heap.size = w1.heap.size from rfl] at this
      rw [this]
      unfold bytesRow
      have hp' : p < x.data.size := hp
      rw [Array.getElem?_append_left (by rw [Array.size_map]; exact hp'), Array.getElem?_map, Array.getElem?_eq_getElem hp', List.getD_eq_getElem?_getD, List.getElem?_eq_getElem (show p < x.data.toList.length from hp')]
      rfl
    have fzf : ∀ p, p < x.size → (w1.drew.alloc (.cells (bytesRow x cap) 5 ((bytesRow x cap).size, (bytesRow x cap).size + 1))).frozen? ⟨w1.heap.size, p, none⟩ = false := by
      intro p hp
      have hh : (w1.drew.alloc (.cells (bytesRow x cap) 5 ((bytesRow x cap).size, (bytesRow x cap).size + 1))).heap[w1.heap.size]? = some (.cells (bytesRow x cap) 5 ((bytesRow x cap).size, (bytesRow x cap).size + 1)) := heap_alloc_new _ _
      unfold World.frozen?
      rw [hh]
      have : p < (bytesRow x cap).size := by rw [hrs]; omega
      simp
      omega
    have hn : (w1.drew.alloc (.cells (bytesRow x cap) 5 ((bytesRow x cap).size, (bytesRow x cap).size + 1))).heap.size = w1.heap.size + 1 := by simp
    have B2 : Below w.heap.size w (w1.drew.alloc (.cells (bytesRow x cap) 5 ((bytesRow x cap).size, (bytesRow x cap).size + 1))) := (b1.drew).alloc b1.size _
    generalize hW : (w1.drew.alloc (.cells (bytesRow x cap) 5 ((bytesRow x cap).size, (bytesRow x cap).size + 1))) = w2 at *
    have CF := Lib.hid cellf
    have FF := Lib.hid fzf
    have HN := Lib.hid hn
    have hwG := b1.size
    clear cellf fzf hn hW b1 hrs hlen
    generalize hG : w1.heap.size = G at *
    clear hG
    go_wp2_with fail
    refine (reverse_any G cap x.data.toList _ (by have := HN.out; omega) h1 hce CF.out FF.out).mono ?_
    rintro e w3 ⟨rfl, hc3, hg3⟩
    have B3 : Below w.heap.size w w3 := B2.grown hg3 B2.size (fun q hq => by injection hq with hq; omega)
    have hrl : (rev x).data.toList.length = x.size := by rw [← rev_size x]; rfl
    have hcv2 : (convert 31 9 (.slice (some ⟨G, 0, none⟩) x.size cap)).run Try.prog w3 = .ok (.string (rev x)) w3 := by
      have h4 := run_convert_bytes_back (P := Try.prog) w3 31 9 5 ⟨G, 0, none⟩ cap (rev x).data.toList Try.underlying31 Try.underlying5 Try.underlying9 (by
        intro j hj
        have hj2 : j < x.size := by omega
        have h5 := hc3 j hj2
        rw [show ((⟨G, 0, none⟩ : Addr).add j) = ⟨G, j, none⟩ by simp [Addr.add]; exact fun h => h.symm, h5]
        have h6 : x.data.toList.length - 1 - j < x.data.toList.length := by
          have : x.data.toList.length = x.size := rfl
          omega
        rw [List.getD_eq_getElem?_getD, List.getElem?_eq_getElem h6]
        have h7 := rev_get x j (by rw [rev_size]; exact hj2) (by omega)
        exact congrArg (fun b : UInt8 => some (Value.int .u8 (b.toNat : Int))) h7.symm)
      rw [hrl] at h4
      simpa using h4
    have HC3 := Lib.hid hc3
    clear hc3 hrl hcv
    go_wp2_with fail
    go_ret2
    exact ⟨rfl, B3⟩
  · rw [revR_bad h]
    have H := Lib.hid h
    clear h
    go_enter Try.func73, Try.ntmps73
    go_wp2_with fail
    refine (isWord_not x _ sx H.out).mono ?_
    rintro e w1 ⟨rfl, b1⟩
    go_wp2_with fail
    go_ret2
    exact ⟨rfl, b1⟩

end Go.Proofs.Ythjbdcoklgnnlab

/-! ### FnWordsPlain -/
namespace Go.Proofs.Ythjbdcoklgnnlab
set_option linter.unusedVariables false
set_option linter.unusedSimpArgs false
open Go.RowKit

theorem isW_bl {x : ByteArray} : IsW x ↔ (bl x).length ≤ 60 ∧ ∀ b ∈ bl x, 97 ≤ b.toNat ∧ b.toNat ≤ 101 := by
  constructor
  · intro h
    refine ⟨h.1, fun b hb => ?_⟩
    obtain ⟨i, hi, rfl⟩ := List.getElem_of_mem hb
    exact h.2 i hi
  · intro h
    exact ⟨h.1, fun i hi => h.2 _ (List.getElem_mem (l := bl x) hi)⟩
theorem bl_rev (x : ByteArray) : bl (rev x) = (bl x).reverse := by
  show x.data.reverse.toList = x.data.toList.reverse
  exact Array.toList_reverse
theorem IsW.rev {x : ByteArray} (h : IsW x) : IsW (rev x) := by
  rw [isW_bl] at h ⊢
  rw [bl_rev]
  exact ⟨by rw [List.length_reverse]; exact h.1, fun b hb => h.2 b (List.mem_reverse.1 hb)⟩
theorem IsW.join {x y : ByteArray} (h : IsW x) (k : IsW y) (hl : x.size + y.size ≤ 60) : IsW (x ++ y) := by
  rw [isW_bl] at h k ⊢
  rw [bl_append]
  refine ⟨by rw [List.length_append, bl_len, bl_len]; exact hl, fun b hb => ?_⟩
  rcases List.mem_append.1 hb with hb | hb
  · exact h.2 b hb
  · exact k.2 b hb
theorem rev_join (x y : ByteArray) : rev (x ++ y) = rev y ++ rev x := bl_inj (by rw [bl_rev, bl_append, bl_append, bl_rev, bl_rev, List.reverse_append])
theorem rev_rev (x : ByteArray) : rev (rev x) = x := bl_inj (by rw [bl_rev, bl_rev, List.reverse_reverse])
theorem join_left (x y : ByteArray) : (x ++ y).extract 0 x.size = x := bl_inj (by rw [bl_take, bl_append, ← bl_len x, List.take_left])
theorem join_right (x y : ByteArray) : (x ++ y).extract x.size (x ++ y).size = y := bl_inj (by rw [bl_drop, bl_append, ← bl_len x, List.drop_left])
theorem join_get (x y : ByteArray) (k : Nat) (h : k < (x ++ y).size) (h2 : k < x.size) : (x ++ y)[k]'h = x[k]'h2 := by
  have e : (bl (x ++ y))[k]? = (bl x)[k]? := by rw [bl_append, List.getElem?_append_left h2]
  rw [List.getElem?_eq_getElem (show k < (bl (x ++ y)).length from h), List.getElem?_eq_getElem (show k < (bl x).length from h2)] at e
  exact Option.some.inj e
theorem com_join (x y : ByteArray) : ∀ f k, k ≤ x.size → x.size ≤ k + f → comFrom (x ++ y) x f k = x.size
  | 0, k, h1, h2 => by show k = _; omega
  | f + 1, k, h1, h2 => by
    by_cases h : k < x.size
    · have h3 : k < (x ++ y).size := by rw [ByteArray.size_append]; omega
      rw [comFrom_eq h3 h (join_get x y k h3 h)]
      exact com_join x y f (k + 1) (by omega) (by omega)
    · rw [comFrom_end (fun hh => h hh.2)]
      omega
theorem comN_join (x y : ByteArray) : comN (x ++ y) x = x.size := com_join x y _ 0 (Nat.zero_le _) (by rw [ByteArray.size_append]; omega)
theorem nums_ok {x : ByteArray} (h : IsW x) : okN (numsR x) := by
  intro j hj
  have hj' : j < x.size := by rw [← numsR_len x]; exact hj
  rw [numsR_get x j hj hj']
  have h1 := h.lo j hj'
  have h2 := h.hi j hj'
  omega
theorem letB_back {b : UInt8} (h : 97 ≤ b.toNat ∧ b.toNat ≤ 101) : letB ((b.toNat : Int) - 97) = b := by
  have h1 := letB_nat (n := (b.toNat : Int) - 97) (by omega) (by omega)
  exact UInt8.toNat_inj.1 (by omega)
theorem word_nums {x : ByteArray} (h : IsW x) : wordB (numsR x) = x := by
  have h1 := (isW_bl.1 h).2
  apply bl_inj
  show ((numsR x).map letB).toArray.toList = bl x
  have h2 : ∀ l : List UInt8, (∀ b ∈ l, 97 ≤ b.toNat ∧ b.toNat ≤ 101) → (l.map fun b => (b.toNat : Int) - 97).map letB = l := by
    intro l hl
    rw [List.map_map]
    conv => rhs; rw [← List.map_id l]
    exact List.map_congr_left fun b hb => letB_back (hl b hb)
  exact h2 _ h1
theorem set_sum : ∀ (L : List Int) (n : Nat), n < L.length → (L.set n (L.getD n 0 + 1)).sum = L.sum + 1
  | [], n, h => by simp at h
  | a :: L, 0, h => by simp; omega
  | a :: L, n + 1, h => by
    have := set_sum L n (by simpa using h)
    simp only [List.set_cons_succ, List.sum_cons, List.getD_cons_succ, this]
    omega
theorem cnt_sum {x : ByteArray} (h : IsW x) : ∀ k, k ≤ x.size → (cntK x k).sum = k
  | 0, _ => by rw [cntK_zero]; rfl
  | k + 1, hk => by
    have h1 := h.lo k (by omega)
    have h2 := h.hi k (by omega)
    rw [cntK_succ x k (by omega)]
    unfold bump
    rw [set_sum _ _ (by rw [cntK_len]; omega), cnt_sum h k (by omega)]
    omega
theorem cnt_small {x : ByteArray} (h : IsW x) : ∀ z ∈ cntK x x.size, 0 ≤ z ∧ z ≤ 60 := by
  intro z hz
  obtain ⟨j, hj, rfl⟩ := List.getElem_of_mem hz
  have h1 := cntK_bd x x.size (Nat.le_refl _) j
  have h2 := h.size
  rw [List.getD_eq_getElem?_getD, List.getElem?_eq_getElem hj] at h1
  have h3 : (some ((cntK x x.size)[j]'hj)).getD 0 = (cntK x x.size)[j]'hj := rfl
  rw [h3] at h1
  omega

theorem rot_back (l : List UInt8) (k : Nat) (h : k ≤ l.length) : rotL (rotL l k) (l.length - k) = l := by
  unfold rotL
  have e : (l.drop k).length = l.length - k := List.length_drop ..
  rw [← e, List.drop_left, List.take_left, List.take_append_drop]
theorem IsW.turned {x : ByteArray} (h : IsW x) {k : Nat} (hk : k ≤ x.size) : IsW (turned x k) := by
  have hs := turned_size x k hk
  have h0 := h.size
  rw [isW_bl] at h ⊢
  refine ⟨by rw [bl_len]; omega, fun b hb => ?_⟩
  rw [bl_turned] at hb
  unfold rotL at hb
  rcases List.mem_append.1 hb with hb | hb
  · exact h.2 b (List.mem_of_mem_drop hb)
  · exact h.2 b (List.mem_of_mem_take hb)
theorem turn_back {x : ByteArray} {k : Int} (h : (turnR x k).2 = 0) : turnR (turnR x k).1 ((x.size : Int) - k) = (x, 0) ∧ (turnR x k).1.size ≤ 60 ∧ 0 ≤ k ∧ k ≤ x.size := by
  by_cases hx : IsW x
  · by_cases hk : k < 0 ∨ (x.size : Int) < k
    · rw [turnR_out hx hk] at h
      exact absurd h (by decide)
    · obtain ⟨n, rfl⟩ := Int.eq_ofNat_of_zero_le (show 0 ≤ k by omega)
      have hn : n ≤ x.size := by omega
      have h0 := hx.size
      rw [turnR_ok hx hn]
      have hs := turned_size x n hn
      refine ⟨?_, by show (turned x n).size ≤ 60; omega, by omega, by omega⟩
      show turnR (turned x n) ((x.size : Int) - n) = _
      rw [show (x.size : Int) - n = ((x.size - n : Nat) : Int) by omega, turnR_ok (hx.turned hn) (by omega)]
      congr 1
      apply bl_inj
      rw [bl_turned, bl_turned, show x.size - n = (bl x).length - n from rfl, rot_back _ _ hn]
  · rw [turnR_bad hx] at h
    exact absurd h (by decide)

/-- What the law asks of a product, put together. -/
structure WordAns (x y pr : ByteArray) : Prop where
  size : pr.size ≤ 60 ∧ x.size ≤ 60 ∧ y.size ≤ 60
  a : revR pr = (rev pr, 0)
  b : revR x = (rev x, 0)
  c : revR y = (rev y, 0)
  d : productR (rev y) (rev x) = (rev pr, 0)
  back : revR (rev pr) = (pr, 0)
  letters : lettersR pr = (numsR pr, 0)
  made : wolR (numsR pr) = (pr, 0)
  counts : countR pr = (cntK pr pr.size, 0)
  sum : (cntK pr pr.size).sum = pr.size
  small : ∀ z ∈ cntK pr pr.size, 0 ≤ z ∧ z ≤ 60
  begins : beginR pr x = (x, 0)
  ends : endR pr y = (y, 0)

theorem words_good {x y : ByteArray} (h : (productR x y).2 = 0) : WordAns x y (productR x y).1 := by
  by_cases hxy : IsW x ∧ IsW y
  · by_cases hl : 60 < x.size + y.size
    · rw [productR_long hxy hl] at h
      exact absurd h (by decide)
    · rw [productR_ok hxy hl]
      obtain ⟨hx, hy⟩ := hxy
      have hp := hx.join hy (by omega)
      have h1 := hx.size
      have h2 := hy.size
      have h3 := hp.size
      refine ⟨⟨h3, h1, h2⟩, revR_ok hp, revR_ok hx, revR_ok hy, ?_, ?_, lettersR_ok hp, ?_, countR_ok hp, cnt_sum hp _ (Nat.le_refl _), cnt_small hp, ?_, ?_⟩
      · rw [productR_ok ⟨hy.rev, hx.rev⟩ (by rw [rev_size, rev_size]; omega), rev_join]
      · rw [revR_ok hp.rev, rev_rev]
      · rw [wolR_ok (by rw [numsR_len]; exact h3) (nums_ok hp), word_nums hp]
      · rw [beginR_ok ⟨hp, hx⟩, comN_join, join_left]
      · rw [endR_ok ⟨hp, hy⟩, rev_join, comN_join, rev_size, show (x ++ y).size - y.size = x.size by rw [ByteArray.size_append]; omega, join_right]
  · rw [productR_bad hxy] at h
    exact absurd h (by decide)

end Go.Proofs.Ythjbdcoklgnnlab

/-! ### Product -/
namespace Go.Proofs.Ythjbdcoklgnnlab
set_option linter.unusedVariables false
open Go.RowKit

set_option maxRecDepth 100000 in
theorem impl_ProductOf (x y : ByteArray) (w : World) (sx : x.size ≤ maxLen) (sy : y.size ≤ maxLen) :
    Calls Try.prog 23 #[.string x, .string y] w fun e w' => e = .returned (.tuple #[.string (productR x y).1, .int .i64 (productR x y).2]) ∧ Below w.heap.size w w' := by
  by_cases h : IsW x ∧ IsW y
  · have h1 := h.1.size
    have h2 := h.2.size
    by_cases hl : 60 < x.size + y.size
    · rw [productR_long h hl]
      have H := Lib.hid h
      clear h
      go_enter Try.func23, Try.ntmps23
      go_wp2_with (go_at_call 104; refine (areWords2_yes _ x y _ (by simp) (by simp [go_sem]) (by simp [go_sem]) H.out.1 H.out.2).mono ?_; rintro e w1 ⟨rfl, b1⟩)
      go_ret2
      exact ⟨rfl, ((Below.refl _ _).alloc (Nat.le_refl _) _).trans (b1.mono (by simp))⟩
    · rw [productR_ok h hl]
      have H := Lib.hid h
      clear h
      go_enter Try.func23, Try.ntmps23
      go_wp2_with (first | (go_at_call 104; refine (areWords2_yes _ x y _ (by simp) (by simp [go_sem]) (by simp [go_sem]) H.out.1 H.out.2).mono ?_; rintro e w1 ⟨rfl, b1⟩) | (go_at_call 105; refine (strings_Clone _ _ (by simp; omega)).mono ?_; rintro e w2 ⟨rfl, b2⟩))
      go_ret2
      exact ⟨rfl, (((Below.refl _ _).alloc (Nat.le_refl _) _).trans (b1.mono (by simp))).trans (b2.mono (by have := b1.size; simp at this; omega))⟩
  · rw [productR_bad h]
    have H := Lib.hid h
    clear h
    go_enter Try.func23, Try.ntmps23
    go_wp2_with (go_at_call 104; refine (areWords2_no _ x y _ (by simp) (by simp [go_sem]) (by simp [go_sem]) sx sy H.out).mono ?_; rintro e w1 ⟨rfl, b1⟩)
    go_ret2
    exact ⟨rfl, ((Below.refl _ _).alloc (Nat.le_refl _) _).trans (b1.mono (by simp))⟩

end Go.Proofs.Ythjbdcoklgnnlab

/-! ### SfGood -/
namespace Go.Proofs.Ythjbdcoklgnnlab
set_option linter.unusedVariables false
set_option linter.unusedSimpArgs false

/-- Of the greatest exponent. -/
theorem sf_exp (x : ByteArray) (h : (geR x).2.2 = 0) : isfR x = (decide ((geR x).1 < 2 * (geR x).2.1), 0) ∧ iofR x = (decide ((geR x).1 ≤ 2 * (geR x).2.1), 0) ∧ 0 ≤ (geR x).1 ∧ (geR x).1 ≤ 60 ∧ 0 ≤ (geR x).2.1 ∧ (geR x).2.1 ≤ 60 := by
  by_cases hw : IsW x
  · by_cases h0 : x.size = 0
    · rw [geR_nil hw h0] at h; cases h
    · have hs := geF_ok x
      have h60 := hw.size
      have g1 := ge_square hs
      have g2 := ge_overlap hs
      obtain ⟨g3, g4⟩ := gcd_scale (b := (geF x).2) (c := 2) hs.1
      have hb := hs.2.2.1
      have hd1 := Nat.div_le_self (geF x).1 (Nat.gcd (geF x).1 (geF x).2)
      have hd2 := Nat.div_le_self (geF x).2 (Nat.gcd (geF x).1 (geF x).2)
      have hd3 := hs.2.2.2.1
      rw [geR_ok hw h0 hs, isfR_ok hw, iofR_ok hw]
      generalize (geF x).1 / Nat.gcd (geF x).1 (geF x).2 = a at *
      generalize (geF x).2 / Nat.gcd (geF x).1 (geF x).2 = b at *
      rw [g3] at g1
      rw [g4] at g2
      refine ⟨Prod.ext (decide_eq_decide.2 ?_) rfl, Prod.ext (decide_eq_decide.2 ?_) rfl, Int.natCast_nonneg _, by show (a : Int) ≤ 60; omega, Int.natCast_nonneg _, by show (b : Int) ≤ 60; omega⟩
      · rw [g1]; show a < 2 * b ↔ (a : Int) < 2 * (b : Int); omega
      · rw [g2]; show a ≤ 2 * b ↔ (a : Int) ≤ 2 * (b : Int); omega
  · rw [geR_bad hw] at h; cases h

/-- Of the letters with which a word goes on. -/
theorem letB_in {z : Int} (h0 : 0 ≤ z) (h5 : z < 5) : 97 ≤ (letB z).toNat ∧ (letB z).toNat ≤ 101 := by
  have := letB_nat h0 (by omega)
  omega
theorem sf_next (x : ByteArray) (k : Int) (h : (nextR x k).2 = 0) : x.size ≤ 60 ∧ ∀ z ∈ (nextR x k).1, 0 ≤ z ∧ z < 5 ∧ wolR [z] = (wordB [z], 0) ∧ productR x (wordB [z]) = (x ++ wordB [z], 0) ∧ isfR (x ++ wordB [z]) = (true, 0) ∧ x.size + 1 ≤ 60 := by
  by_cases hw : IsW x
  · by_cases hk : k < 1 ∨ 5 < k
    · rw [nextR_out hw hk] at h; cases h
    · by_cases h0 : (fs (bl x)).2 = 0
      · refine ⟨hw.size, ?_⟩
        by_cases h1 : x.size = 60
        · rw [nextR_full hw hk h0 h1]
          intro z hz
          cases hz
        · obtain ⟨n, rfl⟩ := Int.eq_ofNat_of_zero_le (show 0 ≤ k by omega)
          rw [nextR_ok hw hk h0 h1]
          intro z hz
          obtain ⟨z0, z1, z2⟩ := nextL_mem hz
          have h60 := hw.size
          have z5 : z < 5 := by omega
          have hl := letB_in z0 z5
          have hb : bl (wordB [z]) = [letB z] := rfl
          have hz1 : (wordB [z]).size = 1 := rfl
          have hwz : IsW (wordB [z]) := by
            rw [isW_bl, hb]
            refine ⟨by simp, fun b hb' => ?_⟩
            rw [List.mem_singleton] at hb'
            subst hb'
            exact hl
          have hwx : IsW (x ++ wordB [z]) := hw.join hwz (by omega)
          refine ⟨z0, z5, wolR_ok (by simp) (fun i hi => ?_), ?_, ?_, by omega⟩
          · have hi' : i = 0 := by simp at hi; omega
            subst hi'
            exact ⟨z0, by show z ≤ 4; omega⟩
          · exact productR_ok ⟨hw, hwz⟩ (by omega)
          · rw [isfR_ok hwx, decide_eq_true]
            rw [bl_append, hb, fs_snoc]
            exact ⟨h0, z2⟩
      · rw [nextR_not hw hk h0] at h; cases h
  · rw [nextR_bad hw] at h; cases h

/-- Of the first word found. -/
theorem kids_let {D : List UInt8 → List (List UInt8)} {l : List UInt8} (hl : ∀ b ∈ l, 97 ≤ b.toNat ∧ b.toNat ≤ 101) (hD : ∀ m, (∀ b ∈ m, 97 ≤ b.toNat ∧ b.toNat ≤ 101) → ∀ s ∈ D m, ∀ b ∈ s, 97 ≤ b.toNat ∧ b.toNat ≤ 101) : ∀ (g c : Nat), c + g ≤ 5 → ∀ s ∈ kids D l c g, ∀ b ∈ s, 97 ≤ b.toNat ∧ b.toNat ≤ 101
  | 0, c, _, s, h => (by rw [kids] at h; cases h)
  | g + 1, c, hc, s, h => by
    by_cases e : sa (l ++ [letB (c : Int)]) (l.length + 1) = 0
    · rw [kids_hit e, List.mem_append] at h
      rcases h with h | h
      · refine hD _ (fun b hb => ?_) s h
        rcases List.mem_append.1 hb with hb | hb
        · exact hl b hb
        · rw [List.mem_singleton] at hb
          subst hb
          exact letB_in (by omega) (by omega)
      · exact kids_let hl hD g (c + 1) (by omega) s h
    · rw [kids_miss e] at h
      exact kids_let hl hD g (c + 1) (by omega) s h
theorem dfs_let {k : Nat} (hk : k ≤ 5) : ∀ (f : Nat) (l : List UInt8), (∀ b ∈ l, 97 ≤ b.toNat ∧ b.toNat ≤ 101) → ∀ s ∈ dfs k f l, ∀ b ∈ s, 97 ≤ b.toNat ∧ b.toNat ≤ 101
  | 0, l, hl, s, h => by rw [dfs, List.mem_singleton] at h; subst h; exact hl
  | f + 1, l, hl, s, h => by
    rw [dfs] at h
    exact kids_let hl (fun m hm s hs => dfs_let hk f m hm s hs) k 0 (by omega) s h
theorem sf_first (m k : Int) (h : (firstSfR m k).2 = 0) : isfR (firstSfR m k).1 = (true, 0) ∧ ((firstSfR m k).1.size : Int) = m ∧ (firstSfR m k).1.size ≤ 60 := by
  by_cases hc : m < 0 ∨ 30 < m ∨ k < 1 ∨ 5 < k
  · rw [firstSfR_out hc] at h; cases h
  · obtain ⟨a, rfl⟩ := Int.eq_ofNat_of_zero_le (show 0 ≤ m by omega)
    obtain ⟨b, rfl⟩ := Int.eq_ofNat_of_zero_le (show 0 ≤ k by omega)
    cases e : (dfs b a []).head? with
    | none => rw [firstSfR_none (by omega) (by omega) (by omega) e] at h; cases h
    | some s =>
      rw [firstSfR_some (by omega) (by omega) (by omega) e]
      have hs : s ∈ dfs b a [] := List.mem_of_mem_head? e
      have h1 := dfs_size b a [] s hs
      have h2 := dfs_free b a [] (by rfl) s hs
      have h3 := dfs_let (k := b) (by omega) a [] (fun _ hb => by cases hb) s hs
      have hbs : bl (⟨s.toArray⟩ : ByteArray) = s := rfl
      have hsz : (⟨s.toArray⟩ : ByteArray).size = s.length := rfl
      have hw : IsW ⟨s.toArray⟩ := by
        rw [isW_bl, hbs]
        exact ⟨by rw [h1]; simp; omega, h3⟩
      refine ⟨?_, ?_, hw.size⟩
      · show isfR ⟨s.toArray⟩ = _
        rw [isfR_ok hw, hbs, decide_eq_true h2]
      · show ((⟨s.toArray⟩ : ByteArray).size : Int) = _
        rw [hsz, h1]
        simp
/-- Of the count and the first word. -/
theorem sf_count (m k : Int) (h : (countSfR m k).2 = 0) : ((firstSfR m k).2 = 0 ↔ (countSfR m k).1 > 0) ∧ 0 ≤ (countSfR m k).1 := by
  by_cases hc : m < 0 ∨ 12 < m ∨ k < 1 ∨ 3 < k
  · rw [countSfR_out hc] at h; cases h
  · obtain ⟨a, rfl⟩ := Int.eq_ofNat_of_zero_le (show 0 ≤ m by omega)
    obtain ⟨b, rfl⟩ := Int.eq_ofNat_of_zero_le (show 0 ≤ k by omega)
    rw [countSfR_ok (by omega) (by omega) (by omega)]
    cases e : dfs b a [] with
    | nil =>
      rw [firstSfR_none (by omega) (by omega) (by omega) (by rw [e]; rfl)]
      simp
    | cons s t =>
      rw [firstSfR_some (s := s) (by omega) (by omega) (by omega) (by rw [e]; rfl)]
      simp
      omega

end Go.Proofs.Ythjbdcoklgnnlab

/-! ### IsRow -/
namespace Go.Proofs.Ythjbdcoklgnnlab
set_option linter.unusedVariables false
open Go.RowKit
/-- It is nil; or it leads to a row of 'cap' cells, the numbers 'zs' (the first 'len' are its elements), each fitting its kind. -/
def IsRow (k : IntKind) (w : World) (a : Option Addr) (len cap : Nat) (zs : List Int) : Prop :=
  (a = none ∧ len = 0 ∧ cap = 0 ∧ zs = []) ∨
  ∃ x, a = some x ∧ len ≤ cap ∧ cap ≤ maxLen ∧ zs.length = cap ∧ (∀ i, i < zs.length → w.cell? (x.add i) = some (.int k (zs.getD i 0))) ∧ ∀ n ∈ zs, (Lit.int k n).wf = true
theorem IsRow.below {k : IntKind} {w w' : World} {a : Option Addr} {len cap : Nat} {zs : List Int} (h : IsRow k w a len cap zs) (b : Below w.heap.size w w') : IsRow k w' a len cap zs := by
  rcases h with h | ⟨x, h1, h2, h3, h4, h5, h6⟩
  · exact .inl h
  · exact .inr ⟨x, h1, h2, h3, h4, fun i hi => by rw [b.cell (World.block_lt_of_cell? _ _ (h5 i hi))]; exact h5 i hi, h6⟩
theorem IsRow.len_le {k : IntKind} {w : World} {a : Option Addr} {len cap : Nat} {zs : List Int} (h : IsRow k w a len cap zs) : len ≤ 9223372036854775807 := by
  rcases h with ⟨_, h, _⟩ | ⟨x, h1, h2, h3, _⟩
  · omega
  · unfold maxLen at h3; omega
end Go.Proofs.Ythjbdcoklgnnlab

/-! ### Src -/
namespace Go.Proofs.Ythjbdcoklgnnlab
set_option linter.unusedVariables false
set_option linter.unusedSimpArgs false
open Go.RowKit

/-- A source of draws in a block of the call's own: a row of bytes that came in, a place in it, a number. -/
def Src (w0 W : World) (b : Nat) : Prop := ∃ (a : Option Addr) (len cap : Nat) (zs : List Int) (p : Nat) (h : Int),
  W.heap[b]? = some (.cells #[.slice a len cap, .int .i64 (p : Int), .int .u64 h] 139) ∧ IsRow .u8 w0 a len cap zs ∧ p ≤ len ∧ len ≤ 1048576 ∧ 0 ≤ h ∧ h < 18446744073709551616 ∧ w0.heap.size ≤ b

theorem wrap_u64 (y : Int) : IntKind.u64.wrap y = y % 18446744073709551616 := by
  unfold IntKind.wrap
  simp [show IntKind.u64.signed = false from rfl, show IntKind.u64.bits = 64 from rfl]
theorem wrap_in (y : Int) : 0 ≤ IntKind.u64.wrap y ∧ IntKind.u64.wrap y < 18446744073709551616 := by
  rw [wrap_u64]
  omega
theorem and_bound (y : Int) : 0 ≤ wrap64 (bits .and .u64 y 16777215) ∧ wrap64 (bits .and .u64 y 16777215) ≤ 16777215 := by
  have h : bits .and .u64 y 16777215 = IntKind.u64.wrap ((BitVec.ofInt 64 y &&& BitVec.ofInt 64 16777215).toNat : Int) := rfl
  have h2 : (BitVec.ofInt 64 y &&& BitVec.ofInt 64 16777215).toNat ≤ 16777215 := by
    rw [BitVec.toNat_and]
    exact Nat.le_trans Nat.and_le_right (by decide)
  rw [h, wrap_u64]
  unfold wrap64
  omega
/-- The three cells of a source. -/
theorem src_cells {W : World} {b : Nat} {x y z : Value} {t : TypeId} (hb : W.heap[b]? = some (.cells #[x, y, z] t)) :
    W.cell? ⟨b, 0, none⟩ = some x ∧ W.cell? ⟨b, 1, none⟩ = some y ∧ W.cell? ⟨b, 2, none⟩ = some z ∧ W.frozen? ⟨b, 0, none⟩ = false ∧ W.frozen? ⟨b, 1, none⟩ = false ∧ W.frozen? ⟨b, 2, none⟩ = false := by
  simp [World.cell?, World.frozen?, hb]
theorem src_set2 {W : World} {b : Nat} {x y z : Value} {t : TypeId} (hb : W.heap[b]? = some (.cells #[x, y, z] t)) (v : Value) : (W.setCell ⟨b, 2, none⟩ v).heap[b]? = some (.cells #[x, y, v] t) := by
  obtain ⟨hlt, hk⟩ := Array.getElem?_eq_some_iff.1 hb
  show (W.heap.modify b _)[b]? = _
  rw [Array.getElem?_eq_getElem (by rw [Array.size_modify]; exact hlt), Array.getElem_modify_self, hk]
  rfl
theorem src_set1 {W : World} {b : Nat} {x y z : Value} {t : TypeId} (hb : W.heap[b]? = some (.cells #[x, y, z] t)) (v : Value) : (W.setCell ⟨b, 1, none⟩ v).heap[b]? = some (.cells #[x, v, z] t) := by
  obtain ⟨hlt, hk⟩ := Array.getElem?_eq_some_iff.1 hb
  show (W.heap.modify b _)[b]? = _
  rw [Array.getElem?_eq_getElem (by rw [Array.size_modify]; exact hlt), Array.getElem_modify_self, hk]
  rfl
theorem grown_set0 {w w' : World} {g : Nat} (h : w.grownBy w' (some g)) (j : Nat) (u : Value) : w.grownBy (w'.setCell ⟨g, j, none⟩ u) (some g) := grown_set h j u
theorem grown_drewN {w w' : World} {r : Option Nat} (h : w.grownBy w' r) (n : Nat) : w.grownBy (w'.drewN n) r := ⟨h.os, h.tape, h.output, h.size, h.block⟩

set_option maxRecDepth 100000 in
set_option maxHeartbeats 1000000 in
theorem l01Next_any (w0 W : World) (b : Nat) (n : Int) (hS : Src w0 W b) (hB : Below w0.heap.size w0 W) (hn : n ≤ 4611686018427387904) (hn2 : -4611686018427387905 ≤ n) :
    Calls Try.prog 119 #[.pointer (some ⟨b, 0, none⟩), .int .i64 n] W fun e W' => ∃ v : Int, e = .returned (.int .i64 v) ∧ (n < 1 → v = 0) ∧ (1 ≤ n → 0 ≤ v ∧ v < n) ∧ Src w0 W' b ∧ W.grownBy W' (some b) := by
  by_cases h1 : n < 1
  · have HS := Lib.hid hS
    clear hS
    go_enter Try.func119, Try.ntmps119
    go_wp2
    go_ret
    exact ⟨0, rfl, fun _ => rfl, fun h => by omega, HS.out, grown_refl _ _⟩
  · obtain ⟨a, len, cap, zs, p, h, hb, hR, hp, hl, h0, h64, hwb⟩ := hS
    have c0 : W.cell? ⟨b, 0, none⟩ = some (.slice a len cap) := by simp [World.cell?, hb]
    have c1 : W.cell? ⟨b, 1, none⟩ = some (.int .i64 (p : Int)) := by simp [World.cell?, hb]
    have c2 : W.cell? ⟨b, 2, none⟩ = some (.int .u64 h) := by simp [World.cell?, hb]
    have f1 : W.frozen? ⟨b, 1, none⟩ = false := by simp [World.frozen?, hb]
    have f2 : W.frozen? ⟨b, 2, none⟩ = false := by simp [World.frozen?, hb]
    have hw1 := wrap_in (IntKind.u64.wrap (h * 6364136223846793005) + 1442695040888963407)
    have hbd := and_bound (IntKind.u64.wrap (IntKind.u64.wrap (h * 6364136223846793005) + 1442695040888963407) / 8589934592)
    by_cases hpl : p < len
    · obtain ⟨y, rfl, hz1, hz2, hcell, hwf⟩ : ∃ y, a = some y ∧ p < cap ∧ cap ≤ maxLen ∧ w0.cell? (y.add p) = some (.int .u8 (zs.getD p 0)) ∧ (0 ≤ zs.getD p 0 ∧ zs.getD p 0 ≤ 255) := by
        rcases hR with ⟨_, h2, _⟩ | ⟨y, h2, h3, h4, h5, h6, h7⟩
        · omega
        · refine ⟨y, h2, by omega, h4, h6 p (by omega), ?_⟩
          have hm := h7 (zs.getD p 0) (by rw [List.getD_eq_getElem?_getD, List.getElem?_eq_getElem (by omega)]; exact List.getElem_mem _)
          have : (IntKind.u8.min ≤ zs.getD p 0 ∧ zs.getD p 0 ≤ IntKind.u8.max) := by simpa [Lit.wf] using hm
          exact this
      have HR := Lib.hid hR
      clear hR
      generalize zs.getD p 0 = z at *
      go_enter Try.func119, Try.ntmps119
      go_wp2
      generalize wrap64 (bits .and .u64 (IntKind.u64.wrap (IntKind.u64.wrap (h * 6364136223846793005) + 1442695040888963407) / 8589934592) 16777215) = x at hbd ⊢
      generalize hh : IntKind.u64.wrap (IntKind.u64.wrap (h * 6364136223846793005) + 1442695040888963407) = h2 at hw1 ⊢
      have hb2 := src_set2 hb (.int .u64 h2)
      have hg2 := grown_set (grown_refl W (some b)) 2 (.int .u64 h2)
      have hB2 := hB.grown hg2 hB.size (fun k e => by cases e; exact hwb)
      have hzc : (W.setCell ⟨b, 2, none⟩ (.int .u64 h2)).cell? (y.add p) = some (.int .u8 z) := by rw [hB2.cell (World.block_lt_of_cell? _ _ hcell)]; exact hcell
      clear c0 c1 c2 f1 f2 hb hcell
      generalize W.setCell ⟨b, 2, none⟩ (.int .u64 h2) = W1 at hb2 hg2 hB2 hzc ⊢
      obtain ⟨c0, c1, c2, f0, f1, f2⟩ := src_cells hb2
      have hpl2 : (p : Int) < (len : Int) := by omega
      go_quiet (fail)
      go_wp2
      go_quiet (fail)
      go_wp2
      go_ret
      exact ⟨(x + z) % n, rfl, fun h => by omega, fun _ => ⟨Int.emod_nonneg _ (by omega), Int.emod_lt_of_pos _ (by omega)⟩, ⟨some y, len, cap, zs, p + 1, h2, by rw [show ((p + 1 : Nat) : Int) = (p : Int) + 1 by omega]; exact src_set1 hb2 _, HR.out, by omega, hl, hw1.1, hw1.2, hwb⟩, grown_set (grown_drewN hg2 _) 1 _⟩
    · go_enter Try.func119, Try.ntmps119
      go_wp2
      generalize wrap64 (bits .and .u64 (IntKind.u64.wrap (IntKind.u64.wrap (h * 6364136223846793005) + 1442695040888963407) / 8589934592) 16777215) = x at hbd ⊢
      generalize hh : IntKind.u64.wrap (IntKind.u64.wrap (h * 6364136223846793005) + 1442695040888963407) = h2 at hw1 ⊢
      have hb2 := src_set2 hb (.int .u64 h2)
      have hg2 := grown_set (grown_refl W (some b)) 2 (.int .u64 h2)
      clear c0 c1 c2 f1 f2 hb
      generalize W.setCell ⟨b, 2, none⟩ (.int .u64 h2) = W1 at hb2 hg2 ⊢
      obtain ⟨c0, c1, c2, f0, f1, f2⟩ := src_cells hb2
      have hpl2 : ¬ (p : Int) < (len : Int) := by omega
      go_quiet (fail)
      go_wp2
      go_ret
      exact ⟨x % n, rfl, fun h => by omega, ⟨Int.emod_nonneg _ (by omega), Int.emod_lt_of_pos _ (by omega)⟩, ⟨a, len, cap, zs, p, h2, hb2, hR, hp, hl, hw1.1, hw1.2, hwb⟩, grown_drewN hg2 _⟩

end Go.Proofs.Ythjbdcoklgnnlab

/-! ### Draw -/
namespace Go.Proofs.Ythjbdcoklgnnlab
set_option linter.unusedVariables false
set_option linter.unusedSimpArgs false
open Go.RowKit

theorem Src.lt {w0 W : World} {b : Nat} (h : Src w0 W b) : b < W.heap.size := by
  obtain ⟨_, _, _, _, _, _, hb, _⟩ := h
  exact (Array.getElem?_eq_some_iff.1 hb).1
theorem Src.ge {w0 W : World} {b : Nat} (h : Src w0 W b) : w0.heap.size ≤ b := by
  obtain ⟨_, _, _, _, _, _, _, _, _, _, _, _, h⟩ := h
  exact h
theorem Src.below {w0 W W' : World} {b : Nat} (h : Src w0 W b) (k : Below W.heap.size W W') : Src w0 W' b := by
  have hl := h.lt
  obtain ⟨a, len, cap, zs, p, q, hb, r⟩ := h
  exact ⟨a, len, cap, zs, p, q, by rw [k.block b hl]; exact hb, r⟩
theorem grown_of_below {W W' : World} (k : Below W.heap.size W W') (r : Option Nat) : W.grownBy W' r := ⟨k.os, k.tape, k.output, k.size, fun j hj _ => k.block j hj⟩
theorem grown_trans {A B C : World} {r : Option Nat} (h : A.grownBy B r) (k : B.grownBy C r) : A.grownBy C r :=
  ⟨k.os.trans h.os, k.tape.trans h.tape, k.output.trans h.output, Nat.le_trans h.size k.size, fun j hj hne => (k.block j (Nat.lt_of_lt_of_le hj h.size) hne).trans (h.block j hj hne)⟩
theorem below_src {w0 W W' : World} {b : Nat} (hB : Below w0.heap.size w0 W) (hb : w0.heap.size ≤ b) (g : W.grownBy W' (some b)) : Below w0.heap.size w0 W' :=
  hB.grown g hB.size (fun k e => by cases e; exact hb)

theorem grown_cell {W W1 : World} {r : Option Nat} (g : W.grownBy W1 r) {p : Addr} (hp : p.block < W.heap.size) (hne : some p.block ≠ r) : W1.cell? p = W.cell? p := by
  unfold World.cell?
  rw [g.block _ hp hne]
/-- What a drawing function that hands back a text comes to: some text of at most N bytes. -/
def DrawnT (N : Nat) (w0 W : World) (b : Nat) (e : Ending) (W' : World) : Prop := ∃ x : ByteArray, e = .returned (.string x) ∧ x.size ≤ N ∧ Src w0 W' b ∧ W.grownBy W' (some b)
def DrawnI (lo hi : Int) (w0 W : World) (b : Nat) (e : Ending) (W' : World) : Prop := ∃ v : Int, e = .returned (.int .i64 v) ∧ lo ≤ v ∧ v ≤ hi ∧ Src w0 W' b ∧ W.grownBy W' (some b)

/-- The next number. -/
theorem l01Next_i (w0 W : World) (b : Nat) (n : Int) (hS : Src w0 W b) (hB : Below w0.heap.size w0 W) (h1 : 1 ≤ n) (hn : n ≤ 4611686018427387904) :
    Calls Try.prog 119 #[.pointer (some ⟨b, 0, none⟩), .int .i64 n] W (DrawnI 0 (n - 1) w0 W b) := by
  refine (l01Next_any w0 W b n hS hB hn (by omega)).mono ?_
  rintro e W' ⟨v, rfl, _, h2, h3, h4⟩
  have h5 := h2 h1
  exact ⟨v, rfl, h5.1, by omega, h3, h4⟩
theorem l01Next_0 (w0 W : World) (b : Nat) (n : Int) (hS : Src w0 W b) (hB : Below w0.heap.size w0 W) (h1 : 0 ≤ n) (hn : n ≤ 4611686018427387904) :
    Calls Try.prog 119 #[.pointer (some ⟨b, 0, none⟩), .int .i64 n] W (DrawnI 0 n w0 W b) := by
  refine (l01Next_any w0 W b n hS hB hn (by omega)).mono ?_
  rintro e W' ⟨v, rfl, h1', h2, h3, h4⟩
  refine ⟨v, rfl, ?_, ?_, h3, h4⟩
  · by_cases h : n < 1
    · rw [h1' h]; exact Int.le_refl _
    · exact (h2 (by omega)).1
  · by_cases h : n < 1
    · rw [h1' h]; omega
    · have := (h2 (by omega)).2; omega

theorem cells_new_ints (W : World) (xs : List Int) (t : TypeId) : ∀ j (h : j < xs.length), (W.alloc (.cells (xs.map (Value.int .i64)).toArray t)).cell? ⟨W.heap.size, j, none⟩ = some (.int .i64 (xs[j]'h)) := by
  intro j h
  rw [World.cell?_alloc_new]
  simp [h]

set_option maxRecDepth 100000 in
theorem l01Pick_any (w0 W : World) (b g : Nat) (xs : List Int) (hS : Src w0 W b) (hB : Below w0.heap.size w0 W) (hg : g < W.heap.size) (hgb : g ≠ b) (h0 : 0 < xs.length) (hn : xs.length ≤ 60)
    (hc : ∀ j (h : j < xs.length), W.cell? ⟨g, j, none⟩ = some (.int .i64 (xs[j]'h))) :
    Calls Try.prog 97 #[.pointer (some ⟨b, 0, none⟩), .slice (some ⟨g, 0, none⟩) xs.length xs.length] W fun e W' => ∃ v : Int, e = .returned (.int .i64 v) ∧ v ∈ xs ∧ Src w0 W' b ∧ W.grownBy W' (some b) := by
  have CN := Lib.hid (l01Next_i w0 W b xs.length hS hB (by omega) (by omega))
  have HC := Lib.hid hc
  clear hc hS
  go_enter Try.func97, Try.ntmps97
  go_wp2_with fail
  refine CN.out.mono ?_
  rintro e W1 ⟨v, rfl, v0, v1, s1, g1⟩
  obtain ⟨m, rfl⟩ := Int.eq_ofNat_of_zero_le v0
  have hm : m < xs.length := by omega
  have k1 : W1.cell? ⟨g, m, none⟩ = some (.int .i64 (xs[m]'hm)) := by
    rw [grown_cell g1 (p := ⟨g, m, none⟩) hg (fun e => hgb (Option.some.inj e))]; exact HC.out m hm
  have HM := Lib.hid (List.getElem_mem hm)
  generalize xs[m]'hm = z at k1 HM
  go_wp2
  go_ret
  exact ⟨z, rfl, HM.out, s1, g1⟩

set_option maxRecDepth 100000 in
set_option maxHeartbeats 1000000 in
theorem l01DrawOf_any (w0 W : World) (b : Nat) (n k : Int) (hS : Src w0 W b) (hB : Below w0.heap.size w0 W) (hn : n ≤ 100) (hn0 : 0 ≤ n) (hk1 : 1 ≤ k) (hk5 : k ≤ 5) :
    Calls Try.prog 121 #[.pointer (some ⟨b, 0, none⟩), .int .i64 n, .int .i64 k] W fun e W' => ∃ x : ByteArray, e = .returned (.string x) ∧ (x.size : Int) = n ∧ Src w0 W' b ∧ W.grownBy W' (some b) := by
  have HB0 := hS.ge
  obtain ⟨N, rfl⟩ := Int.eq_ofNat_of_zero_le hn0
  go_enter Try.func121, Try.ntmps121
  go_wp2
  go_loopg [7, 8] N (fun g s7 s8 wr => ∃ (j : Nat) (x : ByteArray), j + g = N ∧ x.size = j ∧ s7 = .string x ∧ s8 = .int .i64 (j : Int) ∧ Src w0 wr b ∧ W.grownBy wr (some b))
  case atStart => exact ⟨0, ⟨#[]⟩, by omega, rfl, rfl, rfl, hS, grown_refl _ _⟩
  case round =>
    clear hS
    obtain ⟨j, x, hj, hx, rfl, rfl, hS, hG⟩ := hrel
    by_cases hp : j < N
    · obtain ⟨g, rfl⟩ : ∃ g, gk = g + 1 := ⟨gk - 1, by omega⟩
      have hB1 := below_src hB HB0 hG
      have CN := Lib.hid (l01Next_i w0 wr b k hS hB1 hk1 (by omega))
      clear hS
      go_wp2_with fail
      refine CN.out.mono ?_
      rintro e W1 ⟨v, rfl, v0, v1, s1, g1⟩
      go_wp2_with fail
      refine (l01Letter_any v _ v0 (by omega)).mono ?_
      rintro e W2 ⟨rfl, b2⟩
      have e1 : (⟨#[letB v]⟩ : ByteArray).size = 1 := rfl
      generalize (⟨#[letB v]⟩ : ByteArray) = t at *
      have hsum : ∀ W, (Op.stringOp .add x t).run Try.prog W = .ok (.string (x ++ t)) W := fun W => run_string_add_sum W x t (by omega)
      have s2 := s1.below b2
      have g2 := grown_trans (grown_trans hG g1) (grown_of_below b2 (some b))
      have hz : (x ++ t).size = j + 1 := by rw [ByteArray.size_append]; omega
      go_wp2_with fail
      go_roundg g
      case measure => omega
      case rel => exact ⟨j + 1, x ++ t, by omega, hz, rfl, by go_num, s2, g2⟩
    · have hN : Hid (j = N) := Lib.hid (by omega)
      go_wp2
      go_ret
      exact ⟨x, rfl, by have := hN.out; omega, hS, hG⟩

set_option maxRecDepth 100000 in
set_option maxHeartbeats 1000000 in
theorem l01Small_any (w0 W : World) (b : Nat) (hS : Src w0 W b) (hB : Below w0.heap.size w0 W) :
    Calls Try.prog 191 #[.pointer (some ⟨b, 0, none⟩)] W (DrawnT 10 w0 W b) := by
  have HB0 := hS.ge
  have CN := Lib.hid (l01Next_i w0 W b 11 hS hB (by omega) (by omega))
  clear hS
  go_enter Try.func191, Try.ntmps191
  go_wp2_with fail
  refine CN.out.mono ?_
  rintro e W1 ⟨v, rfl, v0, v1, s1, g1⟩
  have hB1 := below_src hB HB0 g1
  have hbl := s1.lt
  go_wp2_with fail
  refine (l01Pick_any w0 _ b _ [1, 2, 2, 2, 3, 5] (s1.below (Below.new _ _)) (hB1.alloc hB1.size _) (by simp) (by omega) (by decide) (by decide) (cells_new_ints W1 [1, 2, 2, 2, 3, 5] _)).mono ?_
  rintro e W2 ⟨k, rfl, hk, s2, g2⟩
  have hB2 := below_src (hB1.alloc hB1.size _) HB0 g2
  have hk2 : 1 ≤ k ∧ k ≤ 5 := by simp at hk; omega
  have g3 := grown_trans g1 (grown_trans (grown_of_below (Below.new W1 _) (some b)) g2)
  clear hk
  go_wp2_with fail
  refine (l01DrawOf_any w0 _ b v k s2 hB2 (by omega) v0 hk2.1 hk2.2).mono ?_
  rintro e W3 ⟨x, rfl, hx, s3, g4⟩
  go_wp2_with fail
  go_ret
  exact ⟨x, rfl, by omega, s3, grown_trans g3 g4⟩

end Go.Proofs.Ythjbdcoklgnnlab

/-! ### Draw2 -/
namespace Go.Proofs.Ythjbdcoklgnnlab
set_option linter.unusedVariables false
set_option linter.unusedSimpArgs false
open Go.RowKit

set_option maxRecDepth 100000 in
set_option maxHeartbeats 2000000 in
theorem l01From_any (a : Option Addr) (len cap : Nat) (zs : List Int) (w : World) (h : IsRow .u8 w a len cap zs) (hl : len ≤ 1048576) :
    Calls Try.prog 98 #[.slice a len cap] w fun e w' => e = .returned (.pointer (some ⟨w.heap.size, 0, none⟩)) ∧ Src w w' w.heap.size ∧ Below w.heap.size w w' := by
  have HR := Lib.hid h
  have hby : ∀ j, j < len → ∃ y z, a = some y ∧ j < cap ∧ w.cell? (y.add j) = some (.int .u8 z) ∧ 0 ≤ z ∧ z ≤ 255 := by
    intro j hj
    rcases h with ⟨_, h2, _⟩ | ⟨y, h2, h3, h4, h5, h6, h7⟩
    · omega
    · have hm := h7 (zs.getD j 0) (by rw [List.getD_eq_getElem?_getD, List.getElem?_eq_getElem (by omega)]; exact List.getElem_mem _)
      have : (IntKind.u8.min ≤ zs.getD j 0 ∧ zs.getD j 0 ≤ IntKind.u8.max) := by simpa [Lit.wf] using hm
      exact ⟨y, _, h2, by omega, h6 j (by omega), this.1, this.2⟩
  have HY := Lib.hid hby
  clear h hby
  go_enter Try.func98, Try.ntmps98
  go_wp2
  go_loopg [4] len (fun g s4 wr => ∃ (j : Nat) (q : Int), j + g = len ∧ s4 = .int .i64 (j : Int) ∧ wr.heap[w.heap.size]? = some (.cells #[.slice a len cap, .int .i64 0, .int .u64 q] 139) ∧ 0 ≤ q ∧ q < 18446744073709551616 ∧ Below w.heap.size w wr)
  case atStart =>
    refine ⟨0, _, by omega, rfl, World.alloc_heap_new w _, ?_, ?_, Below.new _ _⟩
    · omega
    · omega
  case round =>
    obtain ⟨j, q, hj, rfl, hb, q0, q1, hB⟩ := hrel
    by_cases hp : j < len
    · by_cases hp2 : (j : Int) < 4096
      · obtain ⟨g, rfl⟩ : ∃ g, gk = g + 1 := ⟨gk - 1, by omega⟩
        obtain ⟨y, z, rfl, hjc, hcell, z0, z1⟩ := HY.out j hp
        have hzc : wr.cell? (y.add j) = some (.int .u8 z) := by rw [hB.cell (World.block_lt_of_cell? _ _ hcell)]; exact hcell
        have hwi := wrap_in (IntKind.u64.wrap (IntKind.u64.wrap (q * 1099511628211) + z) + 211)
        obtain ⟨c0, c1, c2, f0, f1, f2⟩ := src_cells hb
        have hpl : (j : Int) < (len : Int) := by omega
        go_wp2
        go_region
        have hb2 := src_set2 hb (.int .u64 (IntKind.u64.wrap (IntKind.u64.wrap (IntKind.u64.wrap (q * 1099511628211) + z) + 211)))
        have hB2 : Below w.heap.size w (wr.setCell ⟨w.heap.size, 2, none⟩ (.int .u64 (IntKind.u64.wrap (IntKind.u64.wrap (IntKind.u64.wrap (q * 1099511628211) + z) + 211)))) := hB.setCell (p := ⟨w.heap.size, 2, none⟩) (Nat.le_refl _) _
        go_wp2
        go_roundg g
        case measure => omega
        case rel => exact ⟨j + 1, _, by omega, by go_num, hb2, hwi.1, hwi.2, hB2.drew⟩
      · go_wp2
        go_ret
        exact ⟨rfl, ⟨a, len, cap, zs, 0, q, hb, HR.out, by omega, hl, q0, q1, Nat.le_refl _⟩, hB⟩
    · go_wp2
      go_ret
      exact ⟨rfl, ⟨a, len, cap, zs, 0, q, hb, HR.out, by omega, hl, q0, q1, Nat.le_refl _⟩, hB⟩

set_option maxRecDepth 100000 in
set_option maxHeartbeats 1000000 in
theorem l01Near_any (w0 W : World) (b : Nat) (most : Int) (hS : Src w0 W b) (hB : Below w0.heap.size w0 W) (h0 : 0 ≤ most) (h1 : most ≤ 1000000000) :
    Calls Try.prog 111 #[.pointer (some ⟨b, 0, none⟩), .int .i64 most] W (DrawnI (-4611686018427387904) 1099511627776 w0 W b) := by
  have HB0 := hS.ge
  have CN := Lib.hid (l01Next_i w0 W b 14 hS hB (by omega) (by omega))
  clear hS
  go_enter Try.func111, Try.ntmps111
  go_wp2_with fail
  refine CN.out.mono ?_
  rintro e W1 ⟨v, rfl, v0, v1, s1, g1⟩
  have hB1 := below_src hB HB0 g1
  have hbl := s1.lt
  by_cases hv : v = 0
  · go_wp2_with fail
    refine (l01Pick_any w0 _ b _ [-1, most + 1, 1099511627776, -4611686018427387904] (s1.below (Below.new _ _)) (hB1.alloc hB1.size _) (by simp) (by omega) (by simp) (by simp) (cells_new_ints W1 [-1, most + 1, 1099511627776, -4611686018427387904] _)).mono ?_
    rintro e W2 ⟨k, rfl, hk, s2, g2⟩
    have hk2 : -4611686018427387904 ≤ k ∧ k ≤ 1099511627776 := by simp at hk; omega
    go_wp2_with fail
    go_ret
    exact ⟨k, rfl, hk2.1, hk2.2, s2, grown_trans g1 (grown_trans (grown_of_below (Below.new W1 _) (some b)) g2)⟩
  · have CM := Lib.hid (l01Next_i w0 W1 b (most + 1) s1 hB1 (by omega) (by omega))
    go_wp2_with fail
    refine CM.out.mono ?_
    rintro e W2 ⟨k, rfl, k0, k1, s2, g2⟩
    go_wp2_with fail
    go_ret
    exact ⟨k, rfl, by omega, by omega, s2, grown_trans g1 g2⟩

theorem cells_new_strs (W : World) (xs : List ByteArray) (t : TypeId) : ∀ j (h : j < xs.length), (W.alloc (.cells (xs.map Value.string).toArray t)).cell? ⟨W.heap.size, j, none⟩ = some (.string (xs[j]'h)) := by
  intro j h
  rw [World.cell?_alloc_new]
  simp [h]
def signsL : List ByteArray := [⟨#[97]⟩, ⟨#[98]⟩, ⟨#[99]⟩, ⟨#[101]⟩, ⟨#[102]⟩, ⟨#[65]⟩, ⟨#[32]⟩, ⟨#[44]⟩, ⟨#[48]⟩, ⟨#[10]⟩]
theorem signsL_size : ∀ j (h : j < signsL.length), (signsL[j]'h).size = 1 := by
  intro j h
  match j, h with
  | 0, _ | 1, _ | 2, _ | 3, _ | 4, _ | 5, _ | 6, _ | 7, _ | 8, _ | 9, _ => rfl
  | j + 10, h => simp [signsL] at h; omega

set_option maxRecDepth 100000 in
set_option maxHeartbeats 1000000 in
theorem l01Damage_any (w0 W : World) (b : Nat) (x : ByteArray) (hS : Src w0 W b) (hB : Below w0.heap.size w0 W) (hx : x.size ≤ 1000) :
    Calls Try.prog 163 #[.pointer (some ⟨b, 0, none⟩), .string x] W (DrawnT (x.size + 1) w0 W b) := by
  have HB0 := hS.ge
  have hbl0 := hS.lt
  have CN := Lib.hid (l01Next_i w0 _ b 10 (hS.below (Below.new W (.cells (signsL.map Value.string).toArray 9))) (hB.alloc hB.size _) (by omega) (by omega))
  have HC := Lib.hid (cells_new_strs W signsL 9)
  have HB1 := Lib.hid (hB.alloc hB.size (.cells (signsL.map Value.string).toArray 9))
  have HG := Lib.hid (grown_of_below (Below.new W (.cells (signsL.map Value.string).toArray 9)) (some b))
  have hz : (W.alloc (.cells (signsL.map Value.string).toArray 9)).heap.size = W.heap.size + 1 := by simp
  clear hS
  go_enter Try.func163, Try.ntmps163
  go_wp2_with fail
  refine CN.out.mono ?_
  rintro e W1 ⟨v, rfl, v0, v1, s1, g1⟩
  obtain ⟨m, rfl⟩ := Int.eq_ofNat_of_zero_le v0
  have hm : m < signsL.length := by simp [signsL]; omega
  have k1 : W1.cell? ⟨W.heap.size, m, none⟩ = some (.string (signsL[m]'hm)) := by
    rw [grown_cell g1 (p := ⟨W.heap.size, m, none⟩) (by show W.heap.size < _; omega) (fun e => by have h : W.heap.size = b := Option.some.inj e; omega)]; exact HC.out m hm
  have hcs := signsL_size m hm
  have hB1 := below_src HB1.out HB0 g1
  have g2 := grown_trans HG.out g1
  have hm10 : (m : Int) < 10 := by omega
  generalize signsL[m]'hm = c at k1 hcs
  clear g1 hz
  by_cases h0 : x.size = 0
  · have hx0 : (x.size : Int) = 0 := by omega
    go_wp2_with fail
    go_ret
    exact ⟨c, rfl, by omega, s1, g2⟩
  · have CM := Lib.hid (l01Next_i w0 W1 b x.size s1 hB1 (by omega) (by omega))
    have hx0 : ¬ (x.size : Int) = 0 := by omega
    go_wp2_with fail
    refine CM.out.mono ?_
    rintro e W2 ⟨k, rfl, k0, k1, s2, g3⟩
    obtain ⟨n, rfl⟩ := Int.eq_ofNat_of_zero_le k0
    have hn : n < x.size := by omega
    have hB2 := below_src hB1 HB0 g3
    have g4 := grown_trans g2 g3
    have CK := Lib.hid (l01Next_i w0 W2 b 3 s2 hB2 (by omega) (by omega))
    have hsl1 := fun W => slice_to x (n : Int) n rfl (by omega) W
    have hsl2 := fun W => slice_from x ((n : Int) + 1) (n + 1) (by omega) (by omega) W
    have hsl3 := fun W => slice_from x (n : Int) n rfl (by omega) W
    have z1 : (x.extract 0 n).size = n := by simp; omega
    have z2 : (x.extract (n + 1) x.size).size = x.size - (n + 1) := by simp
    have z3 : (x.extract n x.size).size = x.size - n := by simp
    generalize x.extract 0 n = x1 at *
    generalize x.extract (n + 1) x.size = x2 at *
    generalize x.extract n x.size = x3 at *
    have hsum1 : ∀ W, (Op.stringOp .add x1 c).run Try.prog W = .ok (.string (x1 ++ c)) W := fun W => run_string_add_sum W _ _ (by omega)
    have y1 : (x1 ++ c).size = n + 1 := by rw [ByteArray.size_append]; omega
    have hsum2 : ∀ W, (Op.stringOp .add (x1 ++ c) x2).run Try.prog W = .ok (.string (x1 ++ c ++ x2)) W := fun W => run_string_add_sum W _ _ (by omega)
    have y2 : (x1 ++ c ++ x2).size = x.size := by rw [ByteArray.size_append]; omega
    have hsum3 : ∀ W, (Op.stringOp .add x1 x2).run Try.prog W = .ok (.string (x1 ++ x2)) W := fun W => run_string_add_sum W _ _ (by omega)
    have y3 : (x1 ++ x2).size = x.size - 1 := by rw [ByteArray.size_append]; omega
    have hsum4 : ∀ W, (Op.stringOp .add (x1 ++ c) x3).run Try.prog W = .ok (.string (x1 ++ c ++ x3)) W := fun W => run_string_add_sum W _ _ (by omega)
    have y4 : (x1 ++ c ++ x3).size = x.size + 1 := by rw [ByteArray.size_append]; omega
    generalize x1 ++ x2 = o3 at *
    generalize x1 ++ c ++ x2 = o2 at *
    generalize x1 ++ c ++ x3 = o4 at *
    generalize x1 ++ c = o1 at *
    go_wp2_with fail
    refine CK.out.mono ?_
    rintro e W3 ⟨q, rfl, q0, q1, s3, g5⟩
    have g6 := grown_trans g4 g5
    have s4 := fun n => (s3.below ((Below.refl _ W3).drewN n))
    by_cases hq0 : q = 0
    · subst hq0
      go_wp2_with fail
      go_quiet (fail)
      go_wp2
      go_ret
      exact ⟨o2, rfl, by omega, s4 _, grown_drewN g6 _⟩
    · by_cases hq1 : q = 1
      · subst hq1
        go_wp2_with fail
        go_quiet (fail)
        go_wp2
        go_ret
        exact ⟨o3, rfl, by omega, s4 _, grown_drewN g6 _⟩
      · go_wp2_with fail
        go_quiet (fail)
        go_wp2
        go_ret
        exact ⟨o4, rfl, by omega, s4 _, grown_drewN g6 _⟩

set_option maxRecDepth 100000 in
set_option maxHeartbeats 1000000 in
theorem l01Bad_any (w0 W : World) (b : Nat) (x : ByteArray) (hS : Src w0 W b) (hB : Below w0.heap.size w0 W) (hx : x.size ≤ 900) :
    Calls Try.prog 122 #[.pointer (some ⟨b, 0, none⟩), .string x] W (DrawnT (x.size + 64) w0 W b) := by
  have HB0 := hS.ge
  have CN := Lib.hid (l01Next_i w0 W b 50 hS hB (by omega) (by omega))
  clear hS
  go_enter Try.func122, Try.ntmps122
  go_wp2_with fail
  refine CN.out.mono ?_
  rintro e W1 ⟨v, rfl, v0, v1, s1, g1⟩
  have hB1 := below_src hB HB0 g1
  by_cases h0 : v = 0
  · subst h0
    have hsum : ∀ W, (Op.stringOp .add x ⟨#[102]⟩).run Try.prog W = .ok (.string (x ++ ⟨#[102]⟩)) W := fun W => run_string_add_sum W _ _ (by show x.size + 1 ≤ _; omega)
    have y1 : (x ++ (⟨#[102]⟩ : ByteArray)).size = x.size + 1 := by rw [ByteArray.size_append]; rfl
    generalize x ++ (⟨#[102]⟩ : ByteArray) = o1 at *
    go_wp2_with fail
    go_ret
    exact ⟨o1, rfl, by omega, s1, g1⟩
  · by_cases h1 : v = 1
    · subst h1
      have CD := Lib.hid (l01Damage_any w0 W1 b x s1 hB1 (by omega))
      go_wp2_with fail
      refine CD.out.mono ?_
      rintro e W2 ⟨y, rfl, hy, s2, g2⟩
      go_wp2_with fail
      go_ret
      exact ⟨y, rfl, by omega, s2, grown_trans g1 g2⟩
    · by_cases h2 : v = 2
      · subst h2
        go_wp2_with fail
        go_loopg [1] 61 (fun g s1 wr => ∃ y : ByteArray, 61 ≤ g + y.size ∧ y.size ≤ x.size + 62 ∧ s1 = .string y ∧ wr = W1)
        case atStart => exact ⟨x, by omega, by omega, rfl, rfl⟩
        case round =>
          obtain ⟨y, hy1, hy2, rfl, rfl⟩ := hrel
          by_cases hp : y.size ≤ 60
          · obtain ⟨g, rfl⟩ : ∃ g, gk = g + 1 := ⟨gk - 1, by omega⟩
            have hsum : ∀ W, (Op.stringOp .add y ⟨#[97, 98]⟩).run Try.prog W = .ok (.string (y ++ ⟨#[97, 98]⟩)) W := fun W => run_string_add_sum W _ _ (by show y.size + 2 ≤ _; omega)
            have y1 : (y ++ (⟨#[97, 98]⟩ : ByteArray)).size = y.size + 2 := by rw [ByteArray.size_append]; rfl
            generalize y ++ (⟨#[97, 98]⟩ : ByteArray) = o1 at *
            go_wp2
            go_roundg g
            case measure => omega
            case rel => exact ⟨o1, by omega, by omega, rfl, by first | rfl | trivial⟩
          · go_wp2
            go_ret
            exact ⟨y, rfl, by omega, s1, g1⟩
      · go_wp2_with fail
        go_ret
        exact ⟨x, rfl, by omega, s1, g1⟩

end Go.Proofs.Ythjbdcoklgnnlab

/-! ### MarkPlain -/
namespace Go.Proofs.Ythjbdcoklgnnlab
set_option linter.unusedVariables false
set_option linter.unusedSimpArgs false
open Go.RowKit

def digs : Nat → Nat → List UInt8 → List UInt8
  | 0, _, o => o
  | f + 1, k, o => if k = 0 then o else digs f (k / 10) (UInt8.ofNat (48 + k % 10) :: o)
def markL (k : Nat) : List UInt8 := 109 :: digs (k + 1) k []
def markT (k : Nat) : ByteArray := ⟨(markL k).toArray⟩
theorem digs_zero (f : Nat) (o : List UInt8) : digs f 0 o = o := by cases f <;> simp [digs]
theorem digs_step {f k : Nat} (o : List UInt8) (h : 0 < k) : digs (f + 1) k o = digs f (k / 10) (UInt8.ofNat (48 + k % 10) :: o) := by
  rw [digs, if_neg (by omega)]
theorem dig_nat (k : Nat) : ((UInt8.ofNat (48 + k % 10)).toNat : Int) = 48 + (k : Int) % 10 := by
  rw [UInt8.toNat_ofNat', Nat.mod_eq_of_lt (by omega)]
  omega
theorem cons_push (c : UInt8) (o : List UInt8) : (⟨#[c]⟩ : ByteArray) ++ ⟨o.toArray⟩ = ⟨(c :: o).toArray⟩ := by
  apply ByteArray.ext
  rw [ByteArray.data_append]
  simp

end Go.Proofs.Ythjbdcoklgnnlab

/-! ### Strs -/
namespace Go.Proofs.Ythjbdcoklgnnlab
set_option linter.unusedVariables false
set_option linter.unusedSimpArgs false
open Go.RowKit

theorem infoStr : (Try.prog.info? 9).map (fun i => (i.zero, i.size, i.bytes)) = some (some (.string ⟨#[]⟩), 1, 16) := by kernel_rfl

/-- A slice of numbers that a call made: what it reads as. -/
def OwnS (w : World) (B : Nat) (v : Value) (L : List ByteArray) : Prop := w.ownsRow B 9 1 v L.length (L.map (Value.string))
theorem OwnS.below {w w' : World} {B : Nat} {v : Value} {L : List ByteArray} (h : OwnS w B v L) (b : Below w.heap.size w w') : OwnS w' B v L := own_below h b
theorem OwnS.nil (w : World) (B : Nat) : OwnS w B (.slice none 0 0) [] := World.ownsRow_nil _ _ _ _
theorem OwnS.base {w : World} {B B' : Nat} {v : Value} {L : List ByteArray} (h : OwnS w B v L) (hb : B' ≤ B) : OwnS w B' v L := own_base h hb
theorem OwnS.empty {w : World} {B : Nat} {v : Value} (h : OwnS w B v []) : ∃ a c, v = .slice a 0 c := by
  rcases own_forms h with ⟨rfl, _, _⟩ | ⟨g, cap, rfl, _⟩
  · exact ⟨_, _, rfl⟩
  · exact ⟨_, _, rfl⟩
theorem OwnS.row {w : World} {B : Nat} {v : Value} {L : List ByteArray} (h : OwnS w B v L) (hn : 0 < L.length) :
    ∃ g cap, v = .slice (some ⟨g, 0, none⟩) L.length cap ∧ B ≤ g ∧ g < w.heap.size ∧ L.length ≤ cap ∧ L.length ≤ maxLen ∧ (∀ j (hj : j < L.length), w.cell? ⟨g, j, none⟩ = some (.string (L[j]'hj))) ∧ (∀ j, w.frozen? ⟨g, j, none⟩ = false) := by
  rcases own_forms h with ⟨_, h0, _⟩ | ⟨g, cap, rfl, h1, h2, h3, h4, h5, h6⟩
  · omega
  · refine ⟨g, cap, rfl, h1, h2, h3, h4, fun j hj => ?_, h6⟩
    rw [h5 j hj]
    simp [hj]
/-- What a function that hands back a slice of numbers and a code comes to. -/
def RetS (L : List ByteArray) (c : Int) (w : World) (e : Ending) (w' : World) : Prop := ∃ v, e = .returned (.tuple #[v, .int .i64 c]) ∧ OwnS w' w.heap.size v L ∧ Below w.heap.size w w'

theorem grown_below {w w' w'' : World} {r : Option Nat} (h : w.grownBy w' r) (b : Below w'.heap.size w' w'') : w.grownBy w'' r :=
  ⟨b.os.trans h.os, b.tape.trans h.tape, b.output.trans h.output, Nat.le_trans h.size b.size, fun k hk hne => (b.block k (Nat.lt_of_lt_of_le hk h.size)).trans (h.block k hk hne)⟩
/-- The numbers from m on. -/
def marksS (m : Nat) (n : Nat) : List ByteArray := (List.range n).map fun (j : Nat) => markT (m + j)
theorem marksS_len (m : Nat) (n : Nat) : (marksS m n).length = n := by simp [marksS]
theorem marksS_get (m : Nat) (n j : Nat) (h : j < (marksS m n).length) : (marksS m n)[j]'h = markT (m + j) := by simp [marksS]
theorem marksS_step (m : Nat) (L : List ByteArray) (k : Nat) (h : k < L.length) : ((marksS m k ++ L.drop k).map (Value.string)).set k (.string (markT (m + k))) = (marksS m (k + 1) ++ L.drop (k + 1)).map (Value.string) := by
  apply List.ext_getElem
  · simp [marksS]; omega
  · intro i h1 h2
    simp only [List.getElem_set, List.getElem_map]
    by_cases e : k = i
    · subst e
      simp [marksS, List.getElem_append]
    · rw [if_neg e]
      congr 1
      simp only [List.getElem_append, marksS_len]
      by_cases h3 : i < k
      · rw [dif_pos h3, dif_pos (by omega)]
        simp [marksS]
      · rw [dif_neg h3, dif_neg (by omega)]
        simp only [List.getElem_drop]
        congr 1
        omega

/-- Another slice, in an older block, is kept while one is marked. -/
theorem OwnS.kept {w w' : World} {B B' : Nat} {v u : Value} {L M : List ByteArray} (h : OwnS w B v L) (hu : OwnS w B' u M) (hlt : ∀ k, v.ownBlock = some k → k < B') (hg : w.grownBy w' u.ownBlock) : OwnS w' B v L := by
  refine World.ownsRow.kept h hg ?_
  cases hv : v.ownBlock with
  | none => exact .inl rfl
  | some k =>
    refine .inr fun e => ?_
    have h1 := hlt k hv
    have h2 := (World.ownsRow.lt hu k e.symm).1
    omega
theorem OwnS.lt {w : World} {B : Nat} {v : Value} {L : List ByteArray} (h : OwnS w B v L) : ∀ k, v.ownBlock = some k → B ≤ k ∧ k < w.heap.size := World.ownsRow.lt h
/-- Behind a marking, older blocks stand. -/
theorem below_markedS {W w w' : World} {B : Nat} {v : Value} {L : List ByteArray} (b : Below W.heap.size W w) (h : OwnS w B v L) (hB : W.heap.size ≤ B) (hg : w.grownBy w' v.ownBlock) : Below W.heap.size W w' :=
  b.grown hg b.size fun k e => Nat.le_trans hB (h.lt k e).1

end Go.Proofs.Ythjbdcoklgnnlab

/-! ### WordOf -/
namespace Go.Proofs.Ythjbdcoklgnnlab
set_option linter.unusedVariables false
set_option linter.unusedSimpArgs false
open Go.RowKit

set_option maxRecDepth 100000 in
theorem areLN_yes (B : Nat) (v : Value) (L : List Int) (w : World) (h : OwnI w B v L) (hl : L.length ≤ 1048576) (hok : okN L) :
    Calls Try.prog 94 #[v] w fun e w' => e = .returned (.bool true) ∧ Below w.heap.size w w' := by
  by_cases h0 : L = []
  · subst h0
    obtain ⟨a1, c1, rfl⟩ := h.empty
    clear h hok
    go_enter Try.func94, Try.ntmps94
    go_wp2
    refine wp_loop_rounds 1 ?_
    rw [rounds_succ]
    go_wp2
    go_ret
    exact ⟨rfl, Below.refl _ _⟩
  · have hn : 0 < L.length := List.length_pos_iff.2 h0
    obtain ⟨g, c, rfl, _, hg, hc, hm, cell, _⟩ := h.row hn
    have C := Lib.hid cell
    have OK := Lib.hid hok
    clear h cell h0 hok
    go_enter Try.func94, Try.ntmps94
    go_wp2
    go_loopw [7] (fun i wr => ∃ k : Nat, k ≤ L.length ∧ i = .int .i64 k ∧ wr = w) (fun i _ => L.length - (intOf i).toNat)
    case atStart => exact ⟨0, Nat.zero_le _, rfl, rfl⟩
    case round =>
      obtain ⟨k, hk, rfl, rfl⟩ := hrel
      by_cases hp : k < L.length
      · have k1 := C.out k hp
        have hok := OK.out k hp
        generalize L[k]'hp = z at k1 hok
        obtain ⟨o1, o2⟩ := hok
        have hpc : k < c := by omega
        go_wp2
        go_roundw
        case rel => exact ⟨k + 1, by omega, by go_num, by first | rfl | trivial⟩
        case measure => simp [intOf]; omega
      · go_wp2
        go_ret
        exact ⟨rfl, Below.refl _ _⟩

set_option maxRecDepth 100000 in
theorem areLN_no (B : Nat) (v : Value) (L : List Int) (w : World) (h : OwnI w B v L) (hl : L.length ≤ 1048576) (hok : ¬ okN L) :
    Calls Try.prog 94 #[v] w fun e w' => e = .returned (.bool false) ∧ Below w.heap.size w w' := by
  have h0 : L ≠ [] := fun e => by subst e; exact hok okN_nil
  have hn : 0 < L.length := List.length_pos_iff.2 h0
  obtain ⟨g, c, rfl, _, hg, hc, hm, cell, _⟩ := h.row hn
  have C := Lib.hid cell
  have OK := Lib.hid hok
  clear h cell h0 hok
  go_enter Try.func94, Try.ntmps94
  go_wp2
  go_loopw [7] (fun i wr => ∃ k : Nat, k ≤ L.length ∧ i = .int .i64 k ∧ wr = w ∧ okTo L k) (fun i _ => L.length - (intOf i).toNat)
  case atStart => exact ⟨0, Nat.zero_le _, rfl, rfl, okTo.zero L⟩
  case round =>
    obtain ⟨k, hk, rfl, rfl, hu⟩ := hrel
    have hp : k < L.length := Nat.lt_of_not_le fun hp => OK.out (hu.whole hp)
    have HU := Lib.hid hu
    clear hu
    have k1 := C.out k hp
    have hpc : k < c := by omega
    by_cases hlo : L[k]'hp < 0
    · generalize L[k]'hp = z at *
      go_wp2
      go_ret
      exact ⟨rfl, Below.refl _ _⟩
    · by_cases hhi : L[k]'hp ≤ 4
      · have HS := Lib.hid (HU.out.succ hp (by omega) hhi)
        have HC := Lib.hid k1
        clear k1
        generalize hz : L[k]'hp = z at *
        clear hz
        have k1 := HC.out
        go_wp2
        go_roundw
        case rel => exact ⟨k + 1, by omega, by go_num, by first | rfl | trivial, HS.out⟩
        case measure => simp [intOf]; omega
      · generalize L[k]'hp = z at *
        go_wp2
        go_ret
        exact ⟨rfl, Below.refl _ _⟩

set_option maxRecDepth 100000 in
theorem letterOf_any (n : Int) (w : World) (h0 : 0 ≤ n) (h4 : n ≤ 4) :
    Calls Try.prog 100 #[.int .i64 n] w fun e w' => e = .returned (.int .i32 (97 + n)) ∧ w = w' := by
  go_enter Try.func100, Try.ntmps100
  go_wp2
  go_ret
  exact ⟨rfl, rfl⟩

set_option maxRecDepth 100000 in
set_option maxHeartbeats 1000000 in
theorem wordOf_any (B : Nat) (v : Value) (L : List Int) (w : World) (h : OwnI w B v L) (hl : L.length ≤ 60) (hok : okN L) :
    Calls Try.prog 95 #[v] w fun e w' => e = .returned (.string (wordB L)) ∧ Below w.heap.size w w' := by
  have OK := Lib.hid hok
  have HO := Lib.hid h
  clear hok
  have hfb : Lib.IsBuilderF 132 5 w.heap.size w.heap.size (Lib.byteCells []) (w.alloc (.cells #[.pointer none, .slice none 0 0] 132)) := Lib.IsBuilderF.of (Lib.fresh_isBuilder 132 5 w)
  have HB := Lib.hid hfb
  clear hfb
  by_cases h0 : L = []
  · subst h0
    obtain ⟨a1, c1, rfl⟩ := h.empty
    clear h HO OK
    go_enter Try.func95, Try.ntmps95
    go_wp2
    refine wp_loop_rounds 1 ?_
    rw [rounds_succ]
    go_wp2_with (go_at_call 151; refine (Try.Builder_String_any_k w.heap.size w.heap.size [] _ HB.out (by simp)).mono ?_; rintro e w2 ⟨rfl, _, b2, _⟩)
    go_ret
    exact ⟨rfl, (Below.new _ _).trans b2⟩
  · have hn : 0 < L.length := List.length_pos_iff.2 h0
    obtain ⟨g, c, rfl, _, hg, hc, hm, cell, _⟩ := h.row hn
    have C := Lib.hid cell
    clear h cell h0
    go_enter Try.func95, Try.ntmps95
    go_wp2
    go_loopw [8] (fun i wr => ∃ k : Nat, k ≤ L.length ∧ i = .int .i64 k ∧ Lib.IsBuilderF 132 5 w.heap.size w.heap.size (Lib.byteCells (wordL (L.take k))) wr ∧ Below w.heap.size w wr) (fun i _ => L.length - (intOf i).toNat)
    case atStart => exact ⟨0, Nat.zero_le _, rfl, HB.out, Below.new _ _⟩
    case round =>
      obtain ⟨k, hk, rfl, hI, hB⟩ := hrel
      by_cases hp : k < L.length
      · have k1 : (wr.cell? ⟨g, k, none⟩) = some (.int .i64 (L[k]'hp)) := by rw [(bcell hB).1 g k hg]; exact C.out k hp
        have hokk := OK.out k hp
        have hrc := runeCells_letter hokk.1 hokk.2
        have hsn := wordL_snoc L k hp
        have hln := wordL_len L k (by omega)
        have HRC := Lib.hid hrc
        have HSN := Lib.hid hsn
        have HLN := Lib.hid hln
        have HI := Lib.hid hI
        have HK1 := Lib.hid k1
        clear hrc hsn hln hI k1
        have hz := hB.size
        generalize hzz : L[k]'hp = z at *
        clear hzz
        obtain ⟨o1, o2⟩ := hokk
        have hpc : k < c := by omega
        have k1 := HK1.out
        go_wp2_with fail
        refine (letterOf_any z _ o1 o2).mono ?_
        rintro e w2 ⟨rfl, rfl⟩
        go_wp2_with fail
        refine (Try.Builder_WriteRune_k w.heap.size w.heap.size _ (97 + z) (by omega) (by omega) wr HI.out (by rw [Lib.byteCells_length, HLN.out]; omega) hz).mono ?_
        rintro e w2 ⟨rfl, hI2, b2, _⟩
        rw [HRC.out, ← Lib.byteCells_append, HSN.out] at hI2
        have HI2 := Lib.hid hI2
        clear hI2
        go_wp2_with fail
        go_roundw
        case rel => exact ⟨k + 1, by omega, by go_num, .inr HI2.out, hB.trans b2⟩
        case measure => simp [intOf]; omega
      · have hke : L.length ≤ k := by omega
        have hz := hB.size
        rw [List.take_of_length_le hke] at hI
        have HI := Lib.hid hI
        clear hI
        go_wp2_with fail
        refine (Try.Builder_String_any_k w.heap.size w.heap.size (wordL L) _ HI.out hz).mono ?_
        rintro e w2 ⟨rfl, _, b2, _⟩
        go_wp2_with fail
        go_ret
        exact ⟨rfl, hB.trans b2⟩

end Go.Proofs.Ythjbdcoklgnnlab

/-! ### WordOfS -/
namespace Go.Proofs.Ythjbdcoklgnnlab
set_option linter.unusedVariables false
set_option linter.unusedSimpArgs false
open Go.RowKit

set_option maxRecDepth 100000 in
theorem l01In_yes' (n lo hi : Int) (w : World) (h1 : lo ≤ n) (h2 : n ≤ hi) :
    Calls Try.prog 90 #[.int .i64 n, .int .i64 lo, .int .i64 hi] w fun e w' => e = .returned (.bool true) ∧ w = w' := by
  go_enter Try.func90, Try.ntmps90
  go_wp2
  go_ret
  exact ⟨ret_bool (by simp [*]), rfl⟩

set_option maxRecDepth 100000 in
theorem l01In_no' (n lo hi : Int) (w : World) (h : ¬ (lo ≤ n ∧ n ≤ hi)) :
    Calls Try.prog 90 #[.int .i64 n, .int .i64 lo, .int .i64 hi] w fun e w' => e = .returned (.bool false) ∧ w = w' := by
  by_cases h1 : lo ≤ n
  · have h2 : hi < n := by omega
    clear h
    go_enter Try.func90, Try.ntmps90
    go_wp2
    go_ret
    exact ⟨ret_bool (by simp; omega), rfl⟩
  · have h2 : n < lo := by omega
    clear h h1
    go_enter Try.func90, Try.ntmps90
    go_wp2
    go_ret
    exact ⟨rfl, rfl⟩

set_option maxRecDepth 100000 in
theorem impl_WordOfLetters (B : Nat) (v : Value) (L : List Int) (w : World) (h : OwnI w B v L) (hl : L.length ≤ 1048576) :
    Calls Try.prog 22 #[v] w fun e w' => e = .returned (.tuple #[.string (wolR L).1, .int .i64 (wolR L).2]) ∧ Below w.heap.size w w' := by
  have hv : ∃ a c, v = .slice a L.length c := by
    rcases own_forms h with ⟨rfl, h0, _⟩ | ⟨g, cap, rfl, _⟩
    · exact ⟨none, 0, by rw [h0]⟩
    · exact ⟨_, _, rfl⟩
  obtain ⟨a, c, rfl⟩ := hv
  have H := Lib.hid h
  clear h
  by_cases h60 : 60 < L.length
  · rw [wolR_bad (.inl h60)]
    go_enter Try.func22, Try.ntmps22
    go_wp2
    go_ret2
    exact ⟨rfl, Below.refl _ _⟩
  · by_cases hok : okN L
    · rw [wolR_ok (by omega) hok]
      have HOK := Lib.hid hok
      clear hok
      go_enter Try.func22, Try.ntmps22
      go_wp2_with fail
      refine (areLN_yes _ _ L _ H.out hl HOK.out).mono ?_
      rintro e w2 ⟨rfl, b2⟩
      go_wp2_with fail
      refine (wordOf_any _ _ L _ (H.out.below b2) (by omega) HOK.out).mono ?_
      rintro e w3 ⟨rfl, b3⟩
      go_wp2_with fail
      go_ret2
      exact ⟨rfl, b2.then b3⟩
    · rw [wolR_bad (.inr hok)]
      have HOK := Lib.hid hok
      clear hok
      go_enter Try.func22, Try.ntmps22
      go_wp2_with fail
      refine (areLN_no _ _ L _ H.out hl HOK.out).mono ?_
      rintro e w2 ⟨rfl, b2⟩
      go_wp2_with fail
      go_ret2
      exact ⟨rfl, b2⟩

end Go.Proofs.Ythjbdcoklgnnlab

/-! ### Numbers -/
namespace Go.Proofs.Ythjbdcoklgnnlab
set_option linter.unusedVariables false
set_option linter.unusedSimpArgs false
open Go.RowKit

set_option maxRecDepth 100000 in
theorem l01At_any (x : ByteArray) (k : Nat) (w : World) (h : k < x.size) (hs : x.size ≤ 60) :
    Calls Try.prog 168 #[.string x, .int .i64 k] w fun e w' => e = .returned (.int .i64 (((x[k]'h).toNat : Int) - 97)) ∧ Below w.heap.size w w' := by
  have hb : (x[k]'h).toNat ≤ 255 := by have := (x[k]'h).toNat_lt; omega
  go_enter Try.func168, Try.ntmps168
  go_wp2
  go_ret
  exact ⟨rfl, Below.refl _ _⟩

end Go.Proofs.Ythjbdcoklgnnlab

/-! ### NamedPlain -/
namespace Go.Proofs.Ythjbdcoklgnnlab
set_option linter.unusedVariables false
set_option linter.unusedSimpArgs false
open Go.RowKit

def bt (l : List UInt8) : ByteArray := ⟨l.toArray⟩
theorem bt_size (l : List UInt8) : (bt l).size = l.length := rfl
theorem bt_app (a b : List UInt8) : bt a ++ bt b = bt (a ++ b) := by
  apply ByteArray.ext
  rw [ByteArray.data_append]
  simp [bt]
theorem bt_take (l : List UInt8) (m : Nat) : (bt l).extract 0 m = bt (l.take m) := by
  apply ByteArray.ext
  rw [ByteArray.data_extract]
  simp [bt]
def imgs : Nat → List (List UInt8)
  | 0 => [[97, 98], [97]]
  | 1 => [[97, 98], [98, 97]]
  | 2 => [[97, 98], [97, 97]]
  | _ => [[97, 98, 99], [97, 99], [98]]
def img (I : List (List UInt8)) (c : UInt8) : List UInt8 := I.getD (c.toNat - 97) []
def implRun (I : List (List UInt8)) (m : Nat) : Nat → List UInt8 → Nat → List UInt8
  | 0, l, _ => l
  | f + 1, l, i => if l.length < m then implRun I m f (l ++ img I (l.getD i 0)) (i + 1) else l
def specRun (I : List (List UInt8)) (m : Nat) : Nat → List UInt8 → List UInt8
  | 0, l => l
  | f + 1, l => if l.length < m then specRun I m f (l.flatMap (img I)) else l
def namedI (d m : Nat) : List UInt8 := implRun (imgs d) m 60 ((imgs d).getD 0 []) 1
def namedS (d m : Nat) : List UInt8 := specRun (imgs d) m 60 [97]
theorem named_eq : ∀ d, d < 4 → ∀ m, m < 61 → (namedI d m).take m = (namedS d m).take m := by decide +kernel
theorem implRun_step {I : List (List UInt8)} {m f i : Nat} {l : List UInt8} (h : l.length < m) : implRun I m (f + 1) l i = implRun I m f (l ++ img I (l.getD i 0)) (i + 1) := by rw [implRun, if_pos h]
theorem implRun_end {I : List (List UInt8)} {m f i : Nat} {l : List UInt8} (h : ¬ l.length < m) : implRun I m f l i = l := by
  cases f with
  | zero => rfl
  | succ f => rw [implRun, if_neg h]
theorem specRun_step {I : List (List UInt8)} {m f : Nat} {l : List UInt8} (h : l.length < m) : specRun I m (f + 1) l = specRun I m f (l.flatMap (img I)) := by rw [specRun, if_pos h]
theorem specRun_end {I : List (List UInt8)} {m f : Nat} {l : List UInt8} (h : ¬ l.length < m) : specRun I m f l = l := by
  cases f with
  | zero => rfl
  | succ f => rw [specRun, if_neg h]
/-- All letters have images. -/
def lets (I : List (List UInt8)) (l : List UInt8) : Prop := ∀ c ∈ l, 97 ≤ c.toNat ∧ c.toNat - 97 < I.length
instance (I : List (List UInt8)) (l : List UInt8) : Decidable (lets I l) := by unfold lets; exact inferInstance
def goodI (I : List (List UInt8)) : Prop := (∀ s ∈ I, 1 ≤ s.length ∧ s.length ≤ 3 ∧ lets I s) ∧ 2 ≤ I.length ∧ I.length ≤ 3 ∧ 2 ≤ (I.getD 0 []).length ∧ (I.getD 0 []).getD 0 0 = 97
instance (I : List (List UInt8)) : Decidable (goodI I) := by unfold goodI; exact inferInstance
theorem imgs_good : ∀ d, d < 4 → goodI (imgs d) := by decide +kernel
theorem img_mem {I : List (List UInt8)} {c : UInt8} (h : c.toNat - 97 < I.length) : img I c ∈ I := by
  unfold img
  rw [List.getD_eq_getElem?_getD, List.getElem?_eq_getElem h]
  exact List.getElem_mem h
theorem lets_app {I : List (List UInt8)} {a b : List UInt8} (ha : lets I a) (hb : lets I b) : lets I (a ++ b) := by
  intro c hc
  rcases List.mem_append.1 hc with h | h
  · exact ha c h
  · exact hb c h
theorem lets_flat {I : List (List UInt8)} (g : goodI I) {l : List UInt8} (h : lets I l) : lets I (l.flatMap (img I)) := by
  intro c hc
  rw [List.mem_flatMap] at hc
  obtain ⟨x, hx, hc⟩ := hc
  exact (g.1 _ (img_mem (h x hx).2)).2.2 c hc
theorem flat_len {I : List (List UInt8)} (g : goodI I) : ∀ {l : List UInt8}, lets I l → l.length ≤ (l.flatMap (img I)).length ∧ (l.flatMap (img I)).length ≤ 3 * l.length
  | [], _ => by simp
  | c :: l, h => by
    have h1 := flat_len g (l := l) (fun x hx => h x (List.mem_cons_of_mem _ hx))
    have h2 := g.1 _ (img_mem (h c (List.mem_cons_self ..)).2)
    rw [List.flatMap_cons, List.length_append, List.length_cons]
    omega
theorem flat_grows {I : List (List UInt8)} (g : goodI I) {l : List UInt8} (h : lets I l) (h0 : l.getD 0 0 = 97) (hl : 0 < l.length) : l.length < (l.flatMap (img I)).length ∧ (l.flatMap (img I)).getD 0 0 = 97 := by
  cases l with
  | nil => simp at hl
  | cons c l =>
    have hc : c = 97 := by simpa using h0
    subst hc
    have h1 := flat_len g (l := l) (fun x hx => h x (List.mem_cons_of_mem _ hx))
    have h2 : img I 97 = I.getD 0 [] := rfl
    have h3 := g.2.2.2.1
    have h4 := g.2.2.2.2
    rw [List.flatMap_cons, List.length_append, List.length_cons, h2]
    refine ⟨by omega, ?_⟩
    rw [List.getD_eq_getElem?_getD, List.getElem?_append_left (by omega), ← List.getD_eq_getElem?_getD]
    exact h4
theorem flat_take {I : List (List UInt8)} (l : List UInt8) (i : Nat) (h : i < l.length) : (l.take (i + 1)).flatMap (img I) = (l.take i).flatMap (img I) ++ img I (l[i]'h) := by
  rw [List.take_succ_eq_append_getElem h, List.flatMap_append]
  simp
def idOf (s : ByteArray) : Option Nat := if s.toList = [102, 105, 98, 111, 110, 97, 99, 99, 105] then some 0 else if s.toList = [116, 104, 117, 101] then some 1 else if s.toList = [100, 111, 117, 98, 108, 105, 110, 103] then some 2 else if s.toList = [116, 114, 105, 112, 108, 101] then some 3 else none
def namedR (s : ByteArray) (m : Int) : ByteArray × Int := if m < 0 ∨ 60 < m then (tE, 2) else match idOf s with
  | none => (tE, 4)
  | some d => (bt ((namedS d m.toNat).take m.toNat), 0)
theorem namedR_out {s : ByteArray} {m : Int} (h : m < 0 ∨ 60 < m) : namedR s m = (⟨#[]⟩, 2) := if_pos h
theorem namedR_none {s : ByteArray} {m : Int} (h : ¬ (m < 0 ∨ 60 < m)) (h2 : idOf s = none) : namedR s m = (⟨#[]⟩, 4) := by unfold namedR; rw [if_neg h, h2]; rfl
theorem namedR_some {s : ByteArray} {m : Nat} {d : Nat} (h : m ≤ 60) (h2 : idOf s = some d) : namedR s (m : Int) = (bt ((namedS d m).take m), 0) := by unfold namedR; rw [if_neg (by omega), h2]; rfl
/-- The five ways in which a name is looked up, as the comparisons come out. -/
def way (s : ByteArray) (d : Nat) : Prop := (s.toList == [102, 105, 98, 111, 110, 97, 99, 99, 105]) = decide (d = 0) ∧ (1 ≤ d → (s.toList == [116, 104, 117, 101]) = decide (d = 1)) ∧ (2 ≤ d → (s.toList == [100, 111, 117, 98, 108, 105, 110, 103]) = decide (d = 2)) ∧ (3 ≤ d → (s.toList == [116, 114, 105, 112, 108, 101]) = decide (d = 3))
theorem way_of (s : ByteArray) : (idOf s = none ∧ way s 4) ∨ ∃ d, d < 4 ∧ idOf s = some d ∧ way s d := by
  unfold idOf way
  by_cases h0 : s.toList = [102, 105, 98, 111, 110, 97, 99, 99, 105]
  · exact .inr ⟨0, by omega, by rw [if_pos h0], by simp [h0], fun h => by omega, fun h => by omega, fun h => by omega⟩
  · by_cases h1 : s.toList = [116, 104, 117, 101]
    · exact .inr ⟨1, by omega, by rw [if_neg h0, if_pos h1], by simp [h0], fun _ => by simp [h1], fun h => by omega, fun h => by omega⟩
    · by_cases h2 : s.toList = [100, 111, 117, 98, 108, 105, 110, 103]
      · exact .inr ⟨2, by omega, by rw [if_neg h0, if_neg h1, if_pos h2], by simp [h0], fun _ => by simp [h1], fun _ => by simp [h2], fun h => by omega⟩
      · by_cases h3 : s.toList = [116, 114, 105, 112, 108, 101]
        · exact .inr ⟨3, by omega, by rw [if_neg h0, if_neg h1, if_neg h2, if_pos h3], by simp [h0], fun _ => by simp [h1], fun _ => by simp [h2], fun _ => by simp [h3]⟩
        · exact .inl ⟨by rw [if_neg h0, if_neg h1, if_neg h2, if_neg h3], by simp [h0], fun _ => by simp [h1], fun _ => by simp [h2], fun _ => by simp [h3]⟩

end Go.Proofs.Ythjbdcoklgnnlab

/-! ### Named -/
namespace Go.Proofs.Ythjbdcoklgnnlab
set_option linter.unusedVariables false
set_option linter.unusedSimpArgs false
open Go.RowKit

def szOf : Value → Nat
  | .string t => t.size
  | _ => 0
theorem OwnS.rowS {w : World} {B : Nat} {v : Value} {I : List (List UInt8)} (h : OwnS w B v (I.map bt)) (hn : 0 < I.length) :
    ∃ g cap, v = .slice (some ⟨g, 0, none⟩) I.length cap ∧ g < w.heap.size ∧ I.length ≤ cap ∧ (∀ j (hj : j < I.length), w.cell? ⟨g, j, none⟩ = some (.string (bt (I[j]'hj)))) := by
  obtain ⟨g, cap, hv, _, hg, hc, _, cell, _⟩ := OwnS.row h (by simpa using hn)
  rw [List.length_map] at hv hc
  refine ⟨g, cap, hv, hg, hc, fun j hj => ?_⟩
  rw [cell j (by simpa using hj), List.getElem_map]


set_option maxRecDepth 100000 in
set_option maxHeartbeats 2000000 in
theorem images_some (s : ByteArray) (d : Nat) (w : World) (hd : d < 4) (hw : way s d) :
    Calls Try.prog 134 #[.string s] w fun e w' => ∃ v, e = .returned v ∧ OwnS w' w.heap.size v ((imgs d).map bt) ∧ Below w.heap.size w w' := by
  rcases (show d = 0 ∨ d = 1 ∨ d = 2 ∨ d = 3 by omega) with rfl | rfl | rfl | rfl
  · obtain ⟨t0, t1, t2, t3⟩ := hw
    clear t1 t2 t3
    simp at t0
    go_enter Try.func134, Try.ntmps134
    go_wp2
    go_ret
    exact ⟨_, rfl, World.ownsRow_lit w #[.string ⟨#[97, 98]⟩, .string ⟨#[97]⟩] 2 (Nat.le_refl _) (by decide) (by simp), Below.new _ _⟩
  · obtain ⟨t0, t1, t2, t3⟩ := hw
    have t1 := t1 (by omega)
    clear t2 t3
    simp at t0 t1
    go_enter Try.func134, Try.ntmps134
    go_wp2
    go_ret
    exact ⟨_, rfl, World.ownsRow_lit w #[.string ⟨#[97, 98]⟩, .string ⟨#[98, 97]⟩] 2 (Nat.le_refl _) (by decide) (by simp), Below.new _ _⟩
  · obtain ⟨t0, t1, t2, t3⟩ := hw
    have t1 := t1 (by omega)
    have t2 := t2 (by omega)
    clear t3
    simp at t0 t1 t2
    go_enter Try.func134, Try.ntmps134
    go_wp2
    go_ret
    exact ⟨_, rfl, World.ownsRow_lit w #[.string ⟨#[97, 98]⟩, .string ⟨#[97, 97]⟩] 2 (Nat.le_refl _) (by decide) (by simp), Below.new _ _⟩
  · obtain ⟨t0, t1, t2, t3⟩ := hw
    have t1 := t1 (by omega)
    have t2 := t2 (by omega)
    have t3 := t3 (by omega)
    clear hd
    simp at t0 t1 t2 t3
    go_enter Try.func134, Try.ntmps134
    go_wp2
    go_ret
    exact ⟨_, rfl, World.ownsRow_lit w #[.string ⟨#[97, 98, 99]⟩, .string ⟨#[97, 99]⟩, .string ⟨#[98]⟩] 3 (Nat.le_refl _) (by decide) (by simp), Below.new _ _⟩

set_option maxRecDepth 100000 in
theorem images_none (s : ByteArray) (w : World) (hw : way s 4) :
    Calls Try.prog 134 #[.string s] w fun e w' => e = .returned (.slice none 0 0) ∧ Below w.heap.size w w' := by
  obtain ⟨t0, t1, t2, t3⟩ := hw
  have t1 := t1 (by omega)
  have t2 := t2 (by omega)
  have t3 := t3 (by omega)
  rw [show decide (4 = 0) = false from rfl] at t0
  rw [show decide (4 = 1) = false from rfl] at t1
  rw [show decide (4 = 2) = false from rfl] at t2
  rw [show decide (4 = 3) = false from rfl] at t3
  go_enter Try.func134, Try.ntmps134
  go_wp2
  go_ret
  exact ⟨rfl, Below.refl _ _⟩

end Go.Proofs.Ythjbdcoklgnnlab

/-! ### NamedS -/
namespace Go.Proofs.Ythjbdcoklgnnlab
set_option linter.unusedVariables false
set_option linter.unusedSimpArgs false
open Go.RowKit

set_option maxRecDepth 100000 in
set_option maxHeartbeats 4000000 in
theorem l01Named_none (s : ByteArray) (m : Int) (w : World) (hw : way s 4) :
    Calls Try.prog 135 #[.string s, .int .i64 m] w fun e w' => e = .returned (.tuple #[.string ⟨#[]⟩, .bool false]) ∧ Below w.heap.size w w' := by
  obtain ⟨t0, t1, t2, t3⟩ := hw
  have t1 := t1 (by omega)
  have t2 := t2 (by omega)
  have t3 := t3 (by omega)
  rw [show decide (4 = 0) = false from rfl] at t0
  rw [show decide (4 = 1) = false from rfl] at t1
  rw [show decide (4 = 2) = false from rfl] at t2
  rw [show decide (4 = 3) = false from rfl] at t3
  go_enter Try.func135, Try.ntmps135
  go_wp2
  go_ret2
  exact ⟨rfl, Below.new _ _⟩

set_option maxRecDepth 100000 in
set_option maxHeartbeats 8000000 in
theorem l01Named_some (s : ByteArray) (m d : Nat) (w : World) (hd : d < 4) (hm : m ≤ 60) (hw : way s d) :
    Calls Try.prog 135 #[.string s, .int .i64 (m : Int)] w fun e w' => e = .returned (.tuple #[.string (bt ((namedS d m).take m)), .bool true]) ∧ Below w.heap.size w w' := by
  rcases (show d = 0 ∨ d = 1 ∨ d = 2 ∨ d = 3 by omega) with rfl | rfl | rfl | rfl
  · obtain ⟨t0, t1, t2, t3⟩ := hw
    clear t1 t2 t3
    simp at t0
    go_enter Try.func135, Try.ntmps135
    go_wp2_with fail
    obtain ⟨W1, hW1⟩ : ∃ W1 : World, W1 = (w.alloc (.cells #[] 9)).alloc (.cells #[.string ⟨#[97, 98]⟩, .string ⟨#[97]⟩] 9) := ⟨_, rfl⟩
    have o1 : OwnS W1 (w.heap.size + 1) (.slice (some ⟨w.heap.size + 1, 0, none⟩) 2 2) ((imgs 0).map bt) := by
      have h := World.ownsRow_lit (base := w.heap.size + 1) (size := 1) (w.alloc (.cells #[] 9)) #[.string ⟨#[97, 98]⟩, .string ⟨#[97]⟩] 2 (e := 9) (by simp) (by decide) rfl
      rw [show (w.alloc (.cells #[] 9)).heap.size = w.heap.size + 1 by simp] at h
      rw [hW1]
      exact h
    have B1 : Below w.heap.size w W1 := by rw [hW1]; exact (Below.new _ _).alloc (by simp) _
    have hsz1 : W1.heap.size = w.heap.size + 2 := by rw [hW1]; simp
    rw [← hW1]
    have HZ1 := Lib.hid hsz1
    have HG := Lib.hid (imgs_good 0 (by omega))
    have HI : Hid (specRun (imgs 0) m 60 [97] = namedS 0 m) := Lib.hid rfl
    have hIn : (imgs 0).length = 2 := rfl
    obtain ⟨g, cap, hv, hg, _, cell⟩ := o1.rowS (by rw [hIn]; omega)
    have hgv : g = w.heap.size + 1 := by injection hv with h1; injection h1 with h1; injection h1 with h1; exact h1.symm
    subst hgv
    have C := Lib.hid cell
    clear hW1 o1 cell hv hsz1 hg
    generalize hIm : imgs 0 = I at *
    have hIle : I.length ≤ 2 := by omega
    clear hIm hIn
    have hbz1 := B1.size
    have hgl : w.heap.size + 1 < W1.heap.size := by have := HZ1.out; omega
    go_wp2_with fail
    go_loopw [7] (fun o wr => ∃ (f : Nat) (l : List UInt8) (t : ByteArray), o = .string t ∧ Hid (t = bt l) ∧ Hid (t.size = l.length) ∧ t.size ≤ 180 ∧ 1 ≤ l.length ∧ m ≤ l.length + f ∧ Hid (lets I l) ∧ Hid (l.getD 0 0 = 97) ∧ Below W1.heap.size W1 wr ∧ Hid (specRun I m f l = namedS 0 m)) (fun o _ => m - szOf o)
    case atStart => exact ⟨60, [97], bt [97], rfl, Lib.hid rfl, Lib.hid rfl, by show 1 ≤ 180; omega, by show 1 ≤ 1; omega, by show m ≤ 1 + 60; omega, Lib.hid (fun c hc => by simp at hc; subst hc; have := HG.out.2.1; exact ⟨by decide, by show 97 - 97 < _; omega⟩), Lib.hid rfl, Below.refl _ _, HI⟩
    case round =>
      obtain ⟨f, l, t, rfl, HT, HS, ht180, hl1, hf, HL, H97, hB, HR⟩ := hrel
      obtain ⟨wo, rfl⟩ : ∃ wo : World, wo = wr := ⟨_, rfl⟩
      have hts := HS.out
      by_cases hlt : l.length < m
      · obtain ⟨f, rfl⟩ : ∃ k, f = k + 1 := ⟨f - 1, by omega⟩
        have hltm : (t.size : Int) < (m : Int) := by omega
        have hstep := specRun_step (I := I) (f := f) hlt
        have HST := Lib.hid hstep
        have hgr := flat_grows HG.out HL.out H97.out (by omega)
        have HGR := Lib.hid hgr
        have HLF := Lib.hid (lets_flat HG.out HL.out)
        have hfl := (flat_len HG.out HL.out).2
        have ht60 : t.size ≤ 60 := by omega
        clear hstep hgr
        go_wp2_with fail
        go_loopw [8, 9] (fun u q wr => ∃ (i : Nat) (r : ByteArray), q = .int .i64 i ∧ u = .string r ∧ Hid (r = bt ((l.take i).flatMap (img I))) ∧ r.size ≤ 3 * i ∧ i ≤ l.length ∧ Below W1.heap.size W1 wr) (fun _ q _ => l.length - (intOf q).toNat)
        case atStart => exact ⟨0, ⟨#[]⟩, rfl, rfl, Lib.hid rfl, by show 0 ≤ _; omega, Nat.zero_le _, hB⟩
        case round =>
          clear hB
          obtain ⟨i, r, rfl, rfl, HRR, hr3, hil, hB⟩ := hrel
          by_cases hi : i < l.length
          · have hit : i < t.size := by omega
            have hti : t[i]'hit = l[i]'hi := by
              have h2 : i < (bt l).size := hi
              have h3 : (bt l)[i]'h2 = l[i]'hi := rfl
              have h4 : t[i]'hit = (bt l)[i]'h2 := by
                have := HT.out
                subst this
                rfl
              rw [h4, h3]
            have hle := HL.out (l[i]'hi) (List.getElem_mem _)
            have hmem := img_mem hle.2
            have hgi := HG.out.1 _ hmem
            have hft := flat_take (I := I) l i hi
            have hcell := C.out _ hle.2
            rw [show I[(l[i]'hi).toNat - 97]'hle.2 = img I (l[i]'hi) by unfold img; rw [List.getD_eq_getElem?_getD, List.getElem?_eq_getElem hle.2]; rfl] at hcell
            rw [← hti] at hle hgi hcell hft
            generalize hrg : img I (t[i]'hit) = rr at *
            obtain ⟨a1, a2⟩ := hle
            obtain ⟨r1, r3, hrl⟩ := hgi
            obtain ⟨n, hn⟩ : ∃ n : Nat, ((t[i]'hit).toNat : Int) = (n : Int) + 97 := ⟨(t[i]'hit).toNat - 97, by omega⟩
            have hnn : (t[i]'hit).toNat - 97 = n := by omega
            rw [hnn] at hcell a2
            have E1 : Hid (((t[i]'hit).toNat : Int) - 97 = n) := Lib.hid (by omega)
            have hn2 : n < 2 := by omega
            have happ : r ++ bt rr = bt ((l.take (i + 1)).flatMap (img I)) := by rw [HRR.out, bt_app, hft]
            have hrs : (bt rr).size = rr.length := rfl
            have HAP := Lib.hid happ
            generalize hbr : bt rr = tr at *
            have htr : tr.size ≤ 3 := by omega
            have hasz : (r ++ tr).size = r.size + tr.size := ByteArray.size_append
            have HAS := Lib.hid hasz
            have HC := Lib.hid hcell
            clear hti hmem hft hrg hrl hnn happ hrs hbr hasz hn hcell
            go_wp2_with fail
            refine (l01At_any t i _ hit ht60).mono ?_
            rintro e w2 ⟨rfl, b2⟩
            rw [E1.out]
            have hB2 := hB.then b2
            have kc : w2.cell? ⟨w.heap.size + 1, n, none⟩ = some (.string tr) := by rw [(bcell hB2).1 _ n hgl]; exact HC.out
            go_wp2_with fail
            go_roundw
            case rel => exact ⟨i + 1, r ++ tr, by go_num, rfl, HAP, by have := HAS.out; omega, by omega, hB2⟩
            case measure => simp [intOf]; omega
          · have hE : i = l.length := by omega
            have HN : Hid (r = bt (l.flatMap (img I))) := Lib.hid (by rw [HRR.out, hE, List.take_of_length_le (Nat.le_refl _)])
            have hrz : r.size = (l.flatMap (img I)).length := by rw [HN.out]; rfl
            have HRZ := Lib.hid hrz
            clear hE hrz
            go_wp2_with fail
            go_roundw
            case rel =>
              have q1 := HRZ.out
              have q2 := HGR.out.1
              exact ⟨f, l.flatMap (img I), r, rfl, HN, HRZ, by omega, by omega, by omega, HLF, Lib.hid HGR.out.2, hB, Lib.hid (by rw [← HR.out, HST.out])⟩
            case measure =>
              have q1 := HRZ.out
              have q2 := HGR.out.1
              show m - r.size < m - t.size
              omega
      · have hR := HR.out
        rw [specRun_end hlt] at hR
        have hx : t.extract 0 m = bt ((namedS 0 m).take m) := by rw [HT.out, bt_take, hR]
        have HX := Lib.hid hx
        have hge : m ≤ t.size := by omega
        clear hR hx hlt
        go_wp2_with fail
        go_ret2
        exact ⟨by rw [← HX.out]; rfl, B1.then hB⟩
  · obtain ⟨t0, t1, t2, t3⟩ := hw
    have t1 := t1 (by omega)
    clear t2 t3
    simp at t0 t1
    go_enter Try.func135, Try.ntmps135
    go_wp2_with fail
    obtain ⟨W1, hW1⟩ : ∃ W1 : World, W1 = (w.alloc (.cells #[] 9)).alloc (.cells #[.string ⟨#[97, 98]⟩, .string ⟨#[98, 97]⟩] 9) := ⟨_, rfl⟩
    have o1 : OwnS W1 (w.heap.size + 1) (.slice (some ⟨w.heap.size + 1, 0, none⟩) 2 2) ((imgs 1).map bt) := by
      have h := World.ownsRow_lit (base := w.heap.size + 1) (size := 1) (w.alloc (.cells #[] 9)) #[.string ⟨#[97, 98]⟩, .string ⟨#[98, 97]⟩] 2 (e := 9) (by simp) (by decide) rfl
      rw [show (w.alloc (.cells #[] 9)).heap.size = w.heap.size + 1 by simp] at h
      rw [hW1]
      exact h
    have B1 : Below w.heap.size w W1 := by rw [hW1]; exact (Below.new _ _).alloc (by simp) _
    have hsz1 : W1.heap.size = w.heap.size + 2 := by rw [hW1]; simp
    rw [← hW1]
    have HZ1 := Lib.hid hsz1
    have HG := Lib.hid (imgs_good 1 (by omega))
    have HI : Hid (specRun (imgs 1) m 60 [97] = namedS 1 m) := Lib.hid rfl
    have hIn : (imgs 1).length = 2 := rfl
    obtain ⟨g, cap, hv, hg, _, cell⟩ := o1.rowS (by rw [hIn]; omega)
    have hgv : g = w.heap.size + 1 := by injection hv with h1; injection h1 with h1; injection h1 with h1; exact h1.symm
    subst hgv
    have C := Lib.hid cell
    clear hW1 o1 cell hv hsz1 hg
    generalize hIm : imgs 1 = I at *
    have hIle : I.length ≤ 2 := by omega
    clear hIm hIn
    have hbz1 := B1.size
    have hgl : w.heap.size + 1 < W1.heap.size := by have := HZ1.out; omega
    go_wp2_with fail
    go_loopw [7] (fun o wr => ∃ (f : Nat) (l : List UInt8) (t : ByteArray), o = .string t ∧ Hid (t = bt l) ∧ Hid (t.size = l.length) ∧ t.size ≤ 180 ∧ 1 ≤ l.length ∧ m ≤ l.length + f ∧ Hid (lets I l) ∧ Hid (l.getD 0 0 = 97) ∧ Below W1.heap.size W1 wr ∧ Hid (specRun I m f l = namedS 1 m)) (fun o _ => m - szOf o)
    case atStart => exact ⟨60, [97], bt [97], rfl, Lib.hid rfl, Lib.hid rfl, by show 1 ≤ 180; omega, by show 1 ≤ 1; omega, by show m ≤ 1 + 60; omega, Lib.hid (fun c hc => by simp at hc; subst hc; have := HG.out.2.1; exact ⟨by decide, by show 97 - 97 < _; omega⟩), Lib.hid rfl, Below.refl _ _, HI⟩
    case round =>
      obtain ⟨f, l, t, rfl, HT, HS, ht180, hl1, hf, HL, H97, hB, HR⟩ := hrel
      obtain ⟨wo, rfl⟩ : ∃ wo : World, wo = wr := ⟨_, rfl⟩
      have hts := HS.out
      by_cases hlt : l.length < m
      · obtain ⟨f, rfl⟩ : ∃ k, f = k + 1 := ⟨f - 1, by omega⟩
        have hltm : (t.size : Int) < (m : Int) := by omega
        have hstep := specRun_step (I := I) (f := f) hlt
        have HST := Lib.hid hstep
        have hgr := flat_grows HG.out HL.out H97.out (by omega)
        have HGR := Lib.hid hgr
        have HLF := Lib.hid (lets_flat HG.out HL.out)
        have hfl := (flat_len HG.out HL.out).2
        have ht60 : t.size ≤ 60 := by omega
        clear hstep hgr
        go_wp2_with fail
        go_loopw [8, 9] (fun u q wr => ∃ (i : Nat) (r : ByteArray), q = .int .i64 i ∧ u = .string r ∧ Hid (r = bt ((l.take i).flatMap (img I))) ∧ r.size ≤ 3 * i ∧ i ≤ l.length ∧ Below W1.heap.size W1 wr) (fun _ q _ => l.length - (intOf q).toNat)
        case atStart => exact ⟨0, ⟨#[]⟩, rfl, rfl, Lib.hid rfl, by show 0 ≤ _; omega, Nat.zero_le _, hB⟩
        case round =>
          clear hB
          obtain ⟨i, r, rfl, rfl, HRR, hr3, hil, hB⟩ := hrel
          by_cases hi : i < l.length
          · have hit : i < t.size := by omega
            have hti : t[i]'hit = l[i]'hi := by
              have h2 : i < (bt l).size := hi
              have h3 : (bt l)[i]'h2 = l[i]'hi := rfl
              have h4 : t[i]'hit = (bt l)[i]'h2 := by
                have := HT.out
                subst this
                rfl
              rw [h4, h3]
            have hle := HL.out (l[i]'hi) (List.getElem_mem _)
            have hmem := img_mem hle.2
            have hgi := HG.out.1 _ hmem
            have hft := flat_take (I := I) l i hi
            have hcell := C.out _ hle.2
            rw [show I[(l[i]'hi).toNat - 97]'hle.2 = img I (l[i]'hi) by unfold img; rw [List.getD_eq_getElem?_getD, List.getElem?_eq_getElem hle.2]; rfl] at hcell
            rw [← hti] at hle hgi hcell hft
            generalize hrg : img I (t[i]'hit) = rr at *
            obtain ⟨a1, a2⟩ := hle
            obtain ⟨r1, r3, hrl⟩ := hgi
            obtain ⟨n, hn⟩ : ∃ n : Nat, ((t[i]'hit).toNat : Int) = (n : Int) + 97 := ⟨(t[i]'hit).toNat - 97, by omega⟩
            have hnn : (t[i]'hit).toNat - 97 = n := by omega
            rw [hnn] at hcell a2
            have E1 : Hid (((t[i]'hit).toNat : Int) - 97 = n) := Lib.hid (by omega)
            have hn2 : n < 2 := by omega
            have happ : r ++ bt rr = bt ((l.take (i + 1)).flatMap (img I)) := by rw [HRR.out, bt_app, hft]
            have hrs : (bt rr).size = rr.length := rfl
            have HAP := Lib.hid happ
            generalize hbr : bt rr = tr at *
            have htr : tr.size ≤ 3 := by omega
            have hasz : (r ++ tr).size = r.size + tr.size := ByteArray.size_append
            have HAS := Lib.hid hasz
            have HC := Lib.hid hcell
            clear hti hmem hft hrg hrl hnn happ hrs hbr hasz hn hcell
            go_wp2_with fail
            refine (l01At_any t i _ hit ht60).mono ?_
            rintro e w2 ⟨rfl, b2⟩
            rw [E1.out]
            have hB2 := hB.then b2
            have kc : w2.cell? ⟨w.heap.size + 1, n, none⟩ = some (.string tr) := by rw [(bcell hB2).1 _ n hgl]; exact HC.out
            go_wp2_with fail
            go_roundw
            case rel => exact ⟨i + 1, r ++ tr, by go_num, rfl, HAP, by have := HAS.out; omega, by omega, hB2⟩
            case measure => simp [intOf]; omega
          · have hE : i = l.length := by omega
            have HN : Hid (r = bt (l.flatMap (img I))) := Lib.hid (by rw [HRR.out, hE, List.take_of_length_le (Nat.le_refl _)])
            have hrz : r.size = (l.flatMap (img I)).length := by rw [HN.out]; rfl
            have HRZ := Lib.hid hrz
            clear hE hrz
            go_wp2_with fail
            go_roundw
            case rel =>
              have q1 := HRZ.out
              have q2 := HGR.out.1
              exact ⟨f, l.flatMap (img I), r, rfl, HN, HRZ, by omega, by omega, by omega, HLF, Lib.hid HGR.out.2, hB, Lib.hid (by rw [← HR.out, HST.out])⟩
            case measure =>
              have q1 := HRZ.out
              have q2 := HGR.out.1
              show m - r.size < m - t.size
              omega
      · have hR := HR.out
        rw [specRun_end hlt] at hR
        have hx : t.extract 0 m = bt ((namedS 1 m).take m) := by rw [HT.out, bt_take, hR]
        have HX := Lib.hid hx
        have hge : m ≤ t.size := by omega
        clear hR hx hlt
        go_wp2_with fail
        go_ret2
        exact ⟨by rw [← HX.out]; rfl, B1.then hB⟩
  · obtain ⟨t0, t1, t2, t3⟩ := hw
    have t1 := t1 (by omega)
    have t2 := t2 (by omega)
    clear t3
    simp at t0 t1 t2
    go_enter Try.func135, Try.ntmps135
    go_wp2_with fail
    obtain ⟨W1, hW1⟩ : ∃ W1 : World, W1 = (w.alloc (.cells #[] 9)).alloc (.cells #[.string ⟨#[97, 98]⟩, .string ⟨#[97, 97]⟩] 9) := ⟨_, rfl⟩
    have o1 : OwnS W1 (w.heap.size + 1) (.slice (some ⟨w.heap.size + 1, 0, none⟩) 2 2) ((imgs 2).map bt) := by
      have h := World.ownsRow_lit (base := w.heap.size + 1) (size := 1) (w.alloc (.cells #[] 9)) #[.string ⟨#[97, 98]⟩, .string ⟨#[97, 97]⟩] 2 (e := 9) (by simp) (by decide) rfl
      rw [show (w.alloc (.cells #[] 9)).heap.size = w.heap.size + 1 by simp] at h
      rw [hW1]
      exact h
    have B1 : Below w.heap.size w W1 := by rw [hW1]; exact (Below.new _ _).alloc (by simp) _
    have hsz1 : W1.heap.size = w.heap.size + 2 := by rw [hW1]; simp
    rw [← hW1]
    have HZ1 := Lib.hid hsz1
    have HG := Lib.hid (imgs_good 2 (by omega))
    have HI : Hid (specRun (imgs 2) m 60 [97] = namedS 2 m) := Lib.hid rfl
    have hIn : (imgs 2).length = 2 := rfl
    obtain ⟨g, cap, hv, hg, _, cell⟩ := o1.rowS (by rw [hIn]; omega)
    have hgv : g = w.heap.size + 1 := by injection hv with h1; injection h1 with h1; injection h1 with h1; exact h1.symm
    subst hgv
    have C := Lib.hid cell
    clear hW1 o1 cell hv hsz1 hg
    generalize hIm : imgs 2 = I at *
    have hIle : I.length ≤ 2 := by omega
    clear hIm hIn
    have hbz1 := B1.size
    have hgl : w.heap.size + 1 < W1.heap.size := by have := HZ1.out; omega
    go_wp2_with fail
    go_loopw [7] (fun o wr => ∃ (f : Nat) (l : List UInt8) (t : ByteArray), o = .string t ∧ Hid (t = bt l) ∧ Hid (t.size = l.length) ∧ t.size ≤ 180 ∧ 1 ≤ l.length ∧ m ≤ l.length + f ∧ Hid (lets I l) ∧ Hid (l.getD 0 0 = 97) ∧ Below W1.heap.size W1 wr ∧ Hid (specRun I m f l = namedS 2 m)) (fun o _ => m - szOf o)
    case atStart => exact ⟨60, [97], bt [97], rfl, Lib.hid rfl, Lib.hid rfl, by show 1 ≤ 180; omega, by show 1 ≤ 1; omega, by show m ≤ 1 + 60; omega, Lib.hid (fun c hc => by simp at hc; subst hc; have := HG.out.2.1; exact ⟨by decide, by show 97 - 97 < _; omega⟩), Lib.hid rfl, Below.refl _ _, HI⟩
    case round =>
      obtain ⟨f, l, t, rfl, HT, HS, ht180, hl1, hf, HL, H97, hB, HR⟩ := hrel
      obtain ⟨wo, rfl⟩ : ∃ wo : World, wo = wr := ⟨_, rfl⟩
      have hts := HS.out
      by_cases hlt : l.length < m
      · obtain ⟨f, rfl⟩ : ∃ k, f = k + 1 := ⟨f - 1, by omega⟩
        have hltm : (t.size : Int) < (m : Int) := by omega
        have hstep := specRun_step (I := I) (f := f) hlt
        have HST := Lib.hid hstep
        have hgr := flat_grows HG.out HL.out H97.out (by omega)
        have HGR := Lib.hid hgr
        have HLF := Lib.hid (lets_flat HG.out HL.out)
        have hfl := (flat_len HG.out HL.out).2
        have ht60 : t.size ≤ 60 := by omega
        clear hstep hgr
        go_wp2_with fail
        go_loopw [8, 9] (fun u q wr => ∃ (i : Nat) (r : ByteArray), q = .int .i64 i ∧ u = .string r ∧ Hid (r = bt ((l.take i).flatMap (img I))) ∧ r.size ≤ 3 * i ∧ i ≤ l.length ∧ Below W1.heap.size W1 wr) (fun _ q _ => l.length - (intOf q).toNat)
        case atStart => exact ⟨0, ⟨#[]⟩, rfl, rfl, Lib.hid rfl, by show 0 ≤ _; omega, Nat.zero_le _, hB⟩
        case round =>
          clear hB
          obtain ⟨i, r, rfl, rfl, HRR, hr3, hil, hB⟩ := hrel
          by_cases hi : i < l.length
          · have hit : i < t.size := by omega
            have hti : t[i]'hit = l[i]'hi := by
              have h2 : i < (bt l).size := hi
              have h3 : (bt l)[i]'h2 = l[i]'hi := rfl
              have h4 : t[i]'hit = (bt l)[i]'h2 := by
                have := HT.out
                subst this
                rfl
              rw [h4, h3]
            have hle := HL.out (l[i]'hi) (List.getElem_mem _)
            have hmem := img_mem hle.2
            have hgi := HG.out.1 _ hmem
            have hft := flat_take (I := I) l i hi
            have hcell := C.out _ hle.2
            rw [show I[(l[i]'hi).toNat - 97]'hle.2 = img I (l[i]'hi) by unfold img; rw [List.getD_eq_getElem?_getD, List.getElem?_eq_getElem hle.2]; rfl] at hcell
            rw [← hti] at hle hgi hcell hft
            generalize hrg : img I (t[i]'hit) = rr at *
            obtain ⟨a1, a2⟩ := hle
            obtain ⟨r1, r3, hrl⟩ := hgi
            obtain ⟨n, hn⟩ : ∃ n : Nat, ((t[i]'hit).toNat : Int) = (n : Int) + 97 := ⟨(t[i]'hit).toNat - 97, by omega⟩
            have hnn : (t[i]'hit).toNat - 97 = n := by omega
            rw [hnn] at hcell a2
            have E1 : Hid (((t[i]'hit).toNat : Int) - 97 = n) := Lib.hid (by omega)
            have hn2 : n < 2 := by omega
            have happ : r ++ bt rr = bt ((l.take (i + 1)).flatMap (img I)) := by rw [HRR.out, bt_app, hft]
            have hrs : (bt rr).size = rr.length := rfl
            have HAP := Lib.hid happ
            generalize hbr : bt rr = tr at *
            have htr : tr.size ≤ 3 := by omega
            have hasz : (r ++ tr).size = r.size + tr.size := ByteArray.size_append
            have HAS := Lib.hid hasz
            have HC := Lib.hid hcell
            clear hti hmem hft hrg hrl hnn happ hrs hbr hasz hn hcell
            go_wp2_with fail
            refine (l01At_any t i _ hit ht60).mono ?_
            rintro e w2 ⟨rfl, b2⟩
            rw [E1.out]
            have hB2 := hB.then b2
            have kc : w2.cell? ⟨w.heap.size + 1, n, none⟩ = some (.string tr) := by rw [(bcell hB2).1 _ n hgl]; exact HC.out
            go_wp2_with fail
            go_roundw
            case rel => exact ⟨i + 1, r ++ tr, by go_num, rfl, HAP, by have := HAS.out; omega, by omega, hB2⟩
            case measure => simp [intOf]; omega
          · have hE : i = l.length := by omega
            have HN : Hid (r = bt (l.flatMap (img I))) := Lib.hid (by rw [HRR.out, hE, List.take_of_length_le (Nat.le_refl _)])
            have hrz : r.size = (l.flatMap (img I)).length := by rw [HN.out]; rfl
            have HRZ := Lib.hid hrz
            clear hE hrz
            go_wp2_with fail
            go_roundw
            case rel =>
              have q1 := HRZ.out
              have q2 := HGR.out.1
              exact ⟨f, l.flatMap (img I), r, rfl, HN, HRZ, by omega, by omega, by omega, HLF, Lib.hid HGR.out.2, hB, Lib.hid (by rw [← HR.out, HST.out])⟩
            case measure =>
              have q1 := HRZ.out
              have q2 := HGR.out.1
              show m - r.size < m - t.size
              omega
      · have hR := HR.out
        rw [specRun_end hlt] at hR
        have hx : t.extract 0 m = bt ((namedS 2 m).take m) := by rw [HT.out, bt_take, hR]
        have HX := Lib.hid hx
        have hge : m ≤ t.size := by omega
        clear hR hx hlt
        go_wp2_with fail
        go_ret2
        exact ⟨by rw [← HX.out]; rfl, B1.then hB⟩
  · obtain ⟨t0, t1, t2, t3⟩ := hw
    have t1 := t1 (by omega)
    have t2 := t2 (by omega)
    have t3 := t3 (by omega)
    simp at t0 t1 t2 t3
    go_enter Try.func135, Try.ntmps135
    go_wp2_with fail
    obtain ⟨W1, hW1⟩ : ∃ W1 : World, W1 = (w.alloc (.cells #[] 9)).alloc (.cells #[.string ⟨#[97, 98, 99]⟩, .string ⟨#[97, 99]⟩, .string ⟨#[98]⟩] 9) := ⟨_, rfl⟩
    have o1 : OwnS W1 (w.heap.size + 1) (.slice (some ⟨w.heap.size + 1, 0, none⟩) 3 3) ((imgs 3).map bt) := by
      have h := World.ownsRow_lit (base := w.heap.size + 1) (size := 1) (w.alloc (.cells #[] 9)) #[.string ⟨#[97, 98, 99]⟩, .string ⟨#[97, 99]⟩, .string ⟨#[98]⟩] 3 (e := 9) (by simp) (by decide) rfl
      rw [show (w.alloc (.cells #[] 9)).heap.size = w.heap.size + 1 by simp] at h
      rw [hW1]
      exact h
    have B1 : Below w.heap.size w W1 := by rw [hW1]; exact (Below.new _ _).alloc (by simp) _
    have hsz1 : W1.heap.size = w.heap.size + 2 := by rw [hW1]; simp
    rw [← hW1]
    have HZ1 := Lib.hid hsz1
    have HG := Lib.hid (imgs_good 3 (by omega))
    have HI : Hid (specRun (imgs 3) m 60 [97] = namedS 3 m) := Lib.hid rfl
    have hIn : (imgs 3).length = 3 := rfl
    obtain ⟨g, cap, hv, hg, _, cell⟩ := o1.rowS (by rw [hIn]; omega)
    have hgv : g = w.heap.size + 1 := by injection hv with h1; injection h1 with h1; injection h1 with h1; exact h1.symm
    subst hgv
    have C := Lib.hid cell
    clear hW1 o1 cell hv hsz1 hg
    generalize hIm : imgs 3 = I at *
    have hIle : I.length ≤ 3 := by omega
    clear hIm hIn
    have hbz1 := B1.size
    have hgl : w.heap.size + 1 < W1.heap.size := by have := HZ1.out; omega
    go_wp2_with fail
    go_loopw [7] (fun o wr => ∃ (f : Nat) (l : List UInt8) (t : ByteArray), o = .string t ∧ Hid (t = bt l) ∧ Hid (t.size = l.length) ∧ t.size ≤ 180 ∧ 1 ≤ l.length ∧ m ≤ l.length + f ∧ Hid (lets I l) ∧ Hid (l.getD 0 0 = 97) ∧ Below W1.heap.size W1 wr ∧ Hid (specRun I m f l = namedS 3 m)) (fun o _ => m - szOf o)
    case atStart => exact ⟨60, [97], bt [97], rfl, Lib.hid rfl, Lib.hid rfl, by show 1 ≤ 180; omega, by show 1 ≤ 1; omega, by show m ≤ 1 + 60; omega, Lib.hid (fun c hc => by simp at hc; subst hc; have := HG.out.2.1; exact ⟨by decide, by show 97 - 97 < _; omega⟩), Lib.hid rfl, Below.refl _ _, HI⟩
    case round =>
      obtain ⟨f, l, t, rfl, HT, HS, ht180, hl1, hf, HL, H97, hB, HR⟩ := hrel
      obtain ⟨wo, rfl⟩ : ∃ wo : World, wo = wr := ⟨_, rfl⟩
      have hts := HS.out
      by_cases hlt : l.length < m
      · obtain ⟨f, rfl⟩ : ∃ k, f = k + 1 := ⟨f - 1, by omega⟩
        have hltm : (t.size : Int) < (m : Int) := by omega
        have hstep := specRun_step (I := I) (f := f) hlt
        have HST := Lib.hid hstep
        have hgr := flat_grows HG.out HL.out H97.out (by omega)
        have HGR := Lib.hid hgr
        have HLF := Lib.hid (lets_flat HG.out HL.out)
        have hfl := (flat_len HG.out HL.out).2
        have ht60 : t.size ≤ 60 := by omega
        clear hstep hgr
        go_wp2_with fail
        go_loopw [8, 9] (fun u q wr => ∃ (i : Nat) (r : ByteArray), q = .int .i64 i ∧ u = .string r ∧ Hid (r = bt ((l.take i).flatMap (img I))) ∧ r.size ≤ 3 * i ∧ i ≤ l.length ∧ Below W1.heap.size W1 wr) (fun _ q _ => l.length - (intOf q).toNat)
        case atStart => exact ⟨0, ⟨#[]⟩, rfl, rfl, Lib.hid rfl, by show 0 ≤ _; omega, Nat.zero_le _, hB⟩
        case round =>
          clear hB
          obtain ⟨i, r, rfl, rfl, HRR, hr3, hil, hB⟩ := hrel
          by_cases hi : i < l.length
          · have hit : i < t.size := by omega
            have hti : t[i]'hit = l[i]'hi := by
              have h2 : i < (bt l).size := hi
              have h3 : (bt l)[i]'h2 = l[i]'hi := rfl
              have h4 : t[i]'hit = (bt l)[i]'h2 := by
                have := HT.out
                subst this
                rfl
              rw [h4, h3]
            have hle := HL.out (l[i]'hi) (List.getElem_mem _)
            have hmem := img_mem hle.2
            have hgi := HG.out.1 _ hmem
            have hft := flat_take (I := I) l i hi
            have hcell := C.out _ hle.2
            rw [show I[(l[i]'hi).toNat - 97]'hle.2 = img I (l[i]'hi) by unfold img; rw [List.getD_eq_getElem?_getD, List.getElem?_eq_getElem hle.2]; rfl] at hcell
            rw [← hti] at hle hgi hcell hft
            generalize hrg : img I (t[i]'hit) = rr at *
            obtain ⟨a1, a2⟩ := hle
            obtain ⟨r1, r3, hrl⟩ := hgi
            obtain ⟨n, hn⟩ : ∃ n : Nat, ((t[i]'hit).toNat : Int) = (n : Int) + 97 := ⟨(t[i]'hit).toNat - 97, by omega⟩
            have hnn : (t[i]'hit).toNat - 97 = n := by omega
            rw [hnn] at hcell a2
            have E1 : Hid (((t[i]'hit).toNat : Int) - 97 = n) := Lib.hid (by omega)
            have hn2 : n < 3 := by omega
            have happ : r ++ bt rr = bt ((l.take (i + 1)).flatMap (img I)) := by rw [HRR.out, bt_app, hft]
            have hrs : (bt rr).size = rr.length := rfl
            have HAP := Lib.hid happ
            generalize hbr : bt rr = tr at *
            have htr : tr.size ≤ 3 := by omega
            have hasz : (r ++ tr).size = r.size + tr.size := ByteArray.size_append
            have HAS := Lib.hid hasz
            have HC := Lib.hid hcell
            clear hti hmem hft hrg hrl hnn happ hrs hbr hasz hn hcell
            go_wp2_with fail
            refine (l01At_any t i _ hit ht60).mono ?_
            rintro e w2 ⟨rfl, b2⟩
            rw [E1.out]
            have hB2 := hB.then b2
            have kc : w2.cell? ⟨w.heap.size + 1, n, none⟩ = some (.string tr) := by rw [(bcell hB2).1 _ n hgl]; exact HC.out
            go_wp2_with fail
            go_roundw
            case rel => exact ⟨i + 1, r ++ tr, by go_num, rfl, HAP, by have := HAS.out; omega, by omega, hB2⟩
            case measure => simp [intOf]; omega
          · have hE : i = l.length := by omega
            have HN : Hid (r = bt (l.flatMap (img I))) := Lib.hid (by rw [HRR.out, hE, List.take_of_length_le (Nat.le_refl _)])
            have hrz : r.size = (l.flatMap (img I)).length := by rw [HN.out]; rfl
            have HRZ := Lib.hid hrz
            clear hE hrz
            go_wp2_with fail
            go_roundw
            case rel =>
              have q1 := HRZ.out
              have q2 := HGR.out.1
              exact ⟨f, l.flatMap (img I), r, rfl, HN, HRZ, by omega, by omega, by omega, HLF, Lib.hid HGR.out.2, hB, Lib.hid (by rw [← HR.out, HST.out])⟩
            case measure =>
              have q1 := HRZ.out
              have q2 := HGR.out.1
              show m - r.size < m - t.size
              omega
      · have hR := HR.out
        rw [specRun_end hlt] at hR
        have hx : t.extract 0 m = bt ((namedS 3 m).take m) := by rw [HT.out, bt_take, hR]
        have HX := Lib.hid hx
        have hge : m ≤ t.size := by omega
        clear hR hx hlt
        go_wp2_with fail
        go_ret2
        exact ⟨by rw [← HX.out]; rfl, B1.then hB⟩

end Go.Proofs.Ythjbdcoklgnnlab

/-! ### Draw3 -/
namespace Go.Proofs.Ythjbdcoklgnnlab
set_option linter.unusedVariables false
set_option linter.unusedSimpArgs false
open Go.RowKit

def namesL : List ByteArray := [⟨#[102, 105, 98, 111, 110, 97, 99, 99, 105]⟩, ⟨#[116, 104, 117, 101]⟩, ⟨#[100, 111, 117, 98, 108, 105, 110, 103]⟩, ⟨#[116, 114, 105, 112, 108, 101]⟩]
theorem namesL_way : ∀ j (h : j < namesL.length), way (namesL[j]'h) j := by
  intro j h
  match j, h with
  | 0, _ | 1, _ | 2, _ | 3, _ =>
    unfold way
    simp only [ByteArray.toList_eq, namesL, List.getElem_cons_zero, List.getElem_cons_succ]
    decide
  | j + 4, h => simp [namesL] at h; omega

set_option maxRecDepth 100000 in
theorem l01Names_any (w : World) :
    Calls Try.prog 190 #[] w fun e w' => e = .returned (.slice (some ⟨w.heap.size, 0, none⟩) 4 4) ∧ w' = w.alloc (.cells (namesL.map Value.string).toArray 9) := by
  go_enter Try.func190, Try.ntmps190
  go_wp2
  go_ret
  exact ⟨rfl, rfl⟩

theorem names_alloc {W : World} {g : Nat} {o : Obj} (h : ∀ j (h : j < namesL.length), W.cell? ⟨g, j, none⟩ = some (.string (namesL[j]'h))) (hg : g < W.heap.size) : ∀ j (h : j < namesL.length), (W.alloc o).cell? ⟨g, j, none⟩ = some (.string (namesL[j]'h)) := fun j hj => by
  rw [(Below.new W o).cell (p := ⟨g, j, none⟩) hg]; exact h j hj
theorem names_grown {W W' : World} {g b : Nat} (h : ∀ j (h : j < namesL.length), W.cell? ⟨g, j, none⟩ = some (.string (namesL[j]'h))) (hg : g < W.heap.size) (hb : g ≠ b) (k : W.grownBy W' (some b)) : ∀ j (h : j < namesL.length), W'.cell? ⟨g, j, none⟩ = some (.string (namesL[j]'h)) := fun j hj => by
  rw [grown_cell k (p := ⟨g, j, none⟩) hg (fun e => hb (Option.some.inj e))]; exact h j hj

set_option maxRecDepth 100000 in
set_option maxHeartbeats 4000000 in
theorem l01Draw_any (w0 W : World) (b : Nat) (hS : Src w0 W b) (hB : Below w0.heap.size w0 W) :
    Calls Try.prog 161 #[.pointer (some ⟨b, 0, none⟩)] W (DrawnT 60 w0 W b) := by
  have HB0 := hS.ge
  have CN := Lib.hid (l01Next_i w0 W b 6 hS hB (by omega) (by omega))
  clear hS
  go_enter Try.func161, Try.ntmps161
  go_wp2_with fail
  refine CN.out.mono ?_
  rintro e W1 ⟨v, rfl, v0, v1, s1, g1⟩
  have hB1 := below_src hB HB0 g1
  have hbl := s1.lt
  by_cases h0 : v = 0
  · subst h0
    go_wp2_with fail
    refine (l01Names_any _).mono ?_
    rintro e W2 ⟨rfl, hW2⟩
    have s2 : Src w0 W2 b := by rw [hW2]; exact s1.below (Below.new _ _)
    have hB2 : Below w0.heap.size w0 W2 := by rw [hW2]; exact hB1.alloc hB1.size _
    have g2 : W1.grownBy W2 (some b) := by rw [hW2]; exact grown_of_below (Below.new _ _) _
    have hcn : ∀ j (h : j < namesL.length), W2.cell? ⟨W1.heap.size, j, none⟩ = some (.string (namesL[j]'h)) := by rw [hW2]; exact cells_new_strs W1 namesL 9
    have hz2 : W1.heap.size < W2.heap.size := by rw [hW2]; simp
    have hgb : W1.heap.size ≠ b := by omega
    have hcD : ∀ j (h : j < namesL.length), W2.drew.cell? ⟨W1.heap.size, j, none⟩ = some (.string (namesL[j]'h)) := hcn
    have HW := Lib.hid namesL_way
    have hcE : ∀ j (h : j < namesL.length), (W2.alloc (.cells #[.int .i64 12, .int .i64 30, .int .i64 61] 2)).drew.cell? ⟨W1.heap.size, j, none⟩ = some (.string (namesL[j]'h)) := names_alloc hcn hz2
    have hLE : ∀ j (h : j < [12, 30, 61].length), (W2.alloc (.cells #[.int .i64 12, .int .i64 30, .int .i64 61] 2)).drew.cell? ⟨W2.heap.size, j, none⟩ = some (.int .i64 ([12, 30, 61][j]'h)) := cells_new_ints W2 [12, 30, 61] 2
    have hzE : (W2.alloc (.cells #[.int .i64 12, .int .i64 30, .int .i64 61] 2)).drew.heap.size = W2.heap.size + 1 := by show (W2.alloc _).heap.size = _; simp
    have hBE : Below w0.heap.size w0 (W2.alloc (.cells #[.int .i64 12, .int .i64 30, .int .i64 61] 2)).drew := (hB2.alloc hB2.size _).drew
    have hb2l := s2.lt
    clear hW2 CN hcn
    have hz2d : W1.heap.size < W2.drew.heap.size := hz2
    generalize hgg : W1.heap.size = gn at *
    go_wp2_with fail
    go_region_held3 (fun w' => ∀ j (h : j < namesL.length), w'.cell? ⟨gn, j, none⟩ = some (.string (namesL[j]'h))) (first | assumption | exact names_alloc (by assumption) (by first | omega | (simp; omega)))
     (first
      | (go_at_call 119; refine CC.out.mono ?_; clear CC; rintro e Wc ⟨vc, rfl, vc0, vc1, sc, gc⟩; obtain ⟨q, rfl⟩ := Int.eq_ofNat_of_zero_le vc0; have kc := names_grown kb hzb hgb gc; have hzc : gn < Wc.heap.size := Nat.lt_of_lt_of_le hzb gc.size; have CD := Lib.hid (l01Named_some (namesL[m]'hm) q m Wc (by omega) (by omega) (HW.out m hm)))
      | (go_at_call 119; refine (l01Next_i w0 _ b 4 (by first | exact s2 | exact s2.below (Below.new _ _).drew) (by first | exact hB2.drew | exact hBE) (by omega) (by omega)).mono ?_; rintro e Wa ⟨va, rfl, va0, va1, sa, ga⟩; have ka := names_grown (by first | exact hcD | exact hcE) (by first | exact hz2d | (rw [hzE]; omega)) hgb ga; have hba := below_src (by first | exact hB2.drew | exact hBE) HB0 ga; have hza : gn < Wa.heap.size := (by have h := ga.size; first | exact Nat.lt_of_lt_of_le hz2d h | (rw [hzE] at h; omega)); (first | (have hza2 : W2.heap.size < Wa.heap.size := (by have h := ga.size; rw [hzE] at h; omega); have hla : ∀ j (h : j < [12, 30, 61].length), Wa.cell? ⟨W2.heap.size, j, none⟩ = some (.int .i64 ([12, 30, 61][j]'h)) := (fun j hj => by rw [grown_cell ga (p := ⟨W2.heap.size, j, none⟩) (by show W2.heap.size < _; rw [hzE]; omega) (fun e => by have h : W2.heap.size = b := Option.some.inj e; omega)]; exact hLE j hj)) | skip); have gA : W2.grownBy Wa (some b) := (by first | exact ⟨ga.os, ga.tape, ga.output, ga.size, ga.block⟩ | exact grown_trans (grown_of_below ((Below.new W2 _).drew) _) ga); obtain ⟨m, rfl⟩ := Int.eq_ofNat_of_zero_le va0; have hm : m < namesL.length := (by simp [namesL]; omega); have hm4 : (m : Int) < 4 := (by omega))
      | (go_at_call 97; refine (l01Pick_any w0 Wa b W2.heap.size [12, 30, 61] sa hba hza2 (by omega) (by decide) (by decide) hla).mono ?_; rintro e Wb ⟨pb, rfl, hpb, sb, gb⟩; have hpb2 : 1 ≤ pb ∧ pb ≤ 61 := (by simp at hpb; omega); clear hpb; have gB : Wa.grownBy Wb (some b) := gb; have kb := names_grown ka hza hgb gb; have hbb := below_src hba HB0 gb; have hzb : gn < Wb.heap.size := (by have h := gb.size; omega); have CC := Lib.hid (l01Next_i w0 Wb b pb sb hbb hpb2.1 (by omega)))
      | (go_at_call 97; refine (l01Pick_any w0 _ b _ [12, 30, 61] (sa.below (Below.new _ _)) (hba.alloc hba.size _) (by simp) (by have := sa.lt; omega) (by decide) (by decide) (cells_new_ints Wa [12, 30, 61] _)).mono ?_; rintro e Wb ⟨pb, rfl, hpb, sb, gb⟩; have hpb2 : 1 ≤ pb ∧ pb ≤ 61 := (by simp at hpb; omega); clear hpb; have gB : Wa.grownBy Wb (some b) := grown_trans (grown_of_below (Below.new Wa _) _) gb; have kb := names_grown (names_alloc (o := .cells ([12, 30, 61].map (Value.int .i64)).toArray 2) ka hza) (by rw [World.size_alloc]; omega) hgb gb; have hbb := below_src (hba.alloc hba.size _) HB0 gb; have hzb : gn < Wb.heap.size := (by have h := gb.size; rw [World.size_alloc] at h; omega); have CC := Lib.hid (l01Next_i w0 Wb b pb sb hbb hpb2.1 (by omega)))
      | (go_at_call 135; refine CD.out.mono ?_; rintro e Wd ⟨rfl, bd⟩; have kd : ∀ j (h : j < namesL.length), Wd.cell? ⟨gn, j, none⟩ = some (.string (namesL[j]'h)) := fun j hj => (bd.cell (p := ⟨gn, j, none⟩) hzc).trans (kc j hj)))
    all_goals
      have hq60 : (bt ((namedS m q).take q)).size ≤ 60 := by rw [bt_size, List.length_take]; omega
      have gE := grown_trans (grown_trans (grown_trans (grown_trans (grown_trans g1 g2) gA) gB) gc) (grown_of_below bd (some b))
      have sE := sc.below bd
      go_wp2
      go_ret
      exact ⟨_, rfl, hq60, sE, gE⟩
  · by_cases h1 : v = 1
    · subst h1
      have CK := Lib.hid (l01Next_i w0 W1 b 6 s1 hB1 (by omega) (by omega))
      go_wp2_with fail
      refine CK.out.mono ?_
      rintro e W2 ⟨k, rfl, k0, k1, s2, g2⟩
      have hB2 := below_src hB1 HB0 g2
      have hbl2 := s2.lt
      go_wp2_with fail
      refine (l01Pick_any w0 _ b _ [2, 2, 3] (s2.below (Below.new _ _)) (hB2.alloc hB2.size _) (by simp) (by omega) (by decide) (by decide) (cells_new_ints W2 [2, 2, 3] _)).mono ?_
      rintro e W3 ⟨z, rfl, hz, s3, g3⟩
      have hz2 : 1 ≤ z ∧ z ≤ 5 := by simp at hz; omega
      have hB3 := below_src (hB2.alloc hB2.size _) HB0 g3
      have G3 := grown_trans (grown_trans g1 g2) (grown_trans (grown_of_below (Below.new W2 _) (some b)) g3)
      clear hz
      go_wp2_with fail
      refine (l01DrawOf_any w0 _ b (1 + k) z s3 hB3 (by omega) (by omega) hz2.1 hz2.2).mono ?_
      rintro e W4 ⟨u, rfl, hu, s4, g4⟩
      have hB4 := below_src hB3 HB0 g4
      have G4 := grown_trans G3 g4
      have CL := Lib.hid (l01Next_i w0 W4 b 4 s4 hB4 (by omega) (by omega))
      go_wp2_with fail
      refine CL.out.mono ?_
      rintro e W5 ⟨q, rfl, q0, q1, s5, g5⟩
      have hB5 := below_src hB4 HB0 g5
      have G5 := grown_trans G4 g5
      have hus : u.size ≤ 6 := by omega
      have hu1 : 1 ≤ u.size := by omega
      clear hu
      go_wp2_with fail
      go_loopg [7, 8] 4 (fun g s7 s8 wr => ∃ (t : ByteArray) (j : Int), 0 ≤ j ∧ j ≤ g ∧ t.size + j.toNat * 6 ≤ 24 ∧ s7 = .string t ∧ s8 = .int .i64 j ∧ wr = W5)
      case atStart => exact ⟨⟨#[]⟩, 1 + q, by omega, by omega, by show 0 + _ ≤ 24; omega, rfl, rfl, rfl⟩
      case round =>
        obtain ⟨t, j, j0, jg, ht, rfl, rfl, rfl⟩ := hrel
        by_cases hp : 0 < j
        · obtain ⟨g, rfl⟩ : ∃ g, gk = g + 1 := ⟨gk - 1, by omega⟩
          have hsum : ∀ W, (Op.stringOp .add t u).run Try.prog W = .ok (.string (t ++ u)) W := fun W => run_string_add_sum W _ _ (by omega)
          have y1 : (t ++ u).size = t.size + u.size := by rw [ByteArray.size_append]
          generalize t ++ u = o1 at *
          go_wp2
          go_roundg g
          case measure => omega
          case rel => exact ⟨o1, j - 1, by omega, by omega, by omega, rfl, by go_num, by first | rfl | trivial⟩
        · have CM := Lib.hid (l01Next_i w0 wr b u.size s5 hB5 (by omega) (by omega))
          have hts : t.size ≤ 24 := by omega
          go_wp2_with fail
          refine CM.out.mono ?_
          rintro e W6 ⟨p, rfl, p0, p1, s6, g6⟩
          obtain ⟨n, rfl⟩ := Int.eq_ofNat_of_zero_le p0
          have hsl1 := fun W => slice_to u (n : Int) n rfl (by omega) W
          have z1 : (u.extract 0 n).size = n := by simp; omega
          generalize u.extract 0 n = u1 at *
          have hsum : ∀ W, (Op.stringOp .add t u1).run Try.prog W = .ok (.string (t ++ u1)) W := fun W => run_string_add_sum W _ _ (by omega)
          have y1 : (t ++ u1).size = t.size + u1.size := by rw [ByteArray.size_append]
          generalize t ++ u1 = o1 at *
          have G6 := grown_trans G5 g6
          go_wp2_with fail
          go_ret
          exact ⟨o1, rfl, by omega, s6, G6⟩
    · by_cases h2 : v = 2
      · subst h2
        have CK := Lib.hid (l01Next_i w0 W1 b 12 s1 hB1 (by omega) (by omega))
        go_wp2_with fail
        refine CK.out.mono ?_
        rintro e W2 ⟨k, rfl, k0, k1, s2, g2⟩
        have hB2 := below_src hB1 HB0 g2
        have hbl2 := s2.lt
        go_wp2_with fail
        refine (l01Pick_any w0 _ b _ [2, 2, 3] (s2.below (Below.new _ _)) (hB2.alloc hB2.size _) (by simp) (by omega) (by decide) (by decide) (cells_new_ints W2 [2, 2, 3] _)).mono ?_
        rintro e W3 ⟨z, rfl, hz, s3, g3⟩
        have hz2 : 1 ≤ z ∧ z ≤ 5 := by simp at hz; omega
        have hB3 := below_src (hB2.alloc hB2.size _) HB0 g3
        have G3 := grown_trans (grown_trans g1 g2) (grown_trans (grown_of_below (Below.new W2 _) (some b)) g3)
        clear hz
        go_wp2_with fail
        refine (l01DrawOf_any w0 _ b k z s3 hB3 (by omega) k0 hz2.1 hz2.2).mono ?_
        rintro e W4 ⟨u, rfl, hu, s4, g4⟩
        have hB4 := below_src hB3 HB0 g4
        have G4 := grown_trans G3 g4
        have hus : u.size ≤ 11 := by omega
        clear hu
        have CL := Lib.hid (l01Next_i w0 W4 b 2 s4 hB4 (by omega) (by omega))
        go_wp2_with fail
        refine CL.out.mono ?_
        rintro e W5 ⟨q, rfl, q0, q1, s5, g5⟩
        have hB5 := below_src hB4 HB0 g5
        have G5 := grown_trans G4 g5
        go_wp2_with fail
        refine (l01DrawOf_any w0 _ b q 2 s5 hB5 (by omega) q0 (by omega) (by omega)).mono ?_
        rintro e W6 ⟨m, rfl, hm, s6, g6⟩
        have G6 := grown_trans G5 g6
        have hms : m.size ≤ 1 := by omega
        clear hm
        have hsum : ∀ W, (Op.stringOp .add u m).run Try.prog W = .ok (.string (u ++ m)) W := fun W => run_string_add_sum W _ _ (by omega)
        have y1 : (u ++ m).size = u.size + m.size := by rw [ByteArray.size_append]
        generalize u ++ m = o1 at *
        go_wp2_with fail
        refine (l01Reversed_any u _ (by omega)).mono ?_
        rintro e W7 ⟨rfl, b7⟩
        have hrv : (rev u).size = u.size := rev_size u
        generalize rev u = r at *
        have hsum2 : ∀ W, (Op.stringOp .add o1 r).run Try.prog W = .ok (.string (o1 ++ r)) W := fun W => run_string_add_sum W _ _ (by omega)
        have y2 : (o1 ++ r).size = o1.size + r.size := by rw [ByteArray.size_append]
        generalize o1 ++ r = o2 at *
        have s7 := s6.below b7
        have G7 := grown_trans G6 (grown_of_below b7 (some b))
        go_wp2_with fail
        go_ret
        exact ⟨o2, rfl, by omega, s7, G7⟩
      · by_cases h3 : v = 3
        · subst h3
          go_wp2_with fail
          refine (l01Pick_any w0 _ b _ [20, 40, 61] (s1.below (Below.new _ _)) (hB1.alloc hB1.size _) (by simp) (by omega) (by decide) (by decide) (cells_new_ints W1 [20, 40, 61] _)).mono ?_
          rintro e W2 ⟨k, rfl, hk, s2, g2⟩
          have hk2 : 1 ≤ k ∧ k ≤ 61 := by simp at hk; omega
          have hB2 := below_src (hB1.alloc hB1.size _) HB0 g2
          have G2 := grown_trans g1 (grown_trans (grown_of_below (Below.new W1 _) (some b)) g2)
          clear hk
          have CK := Lib.hid (l01Next_i w0 W2 b k s2 hB2 hk2.1 (by omega))
          go_wp2_with fail
          refine CK.out.mono ?_
          rintro e W3 ⟨q, rfl, q0, q1, s3, g3⟩
          have hB3 := below_src hB2 HB0 g3
          have hbl3 := s3.lt
          have G3 := grown_trans G2 g3
          go_wp2_with fail
          refine (l01Pick_any w0 _ b _ [1, 2, 2, 3, 3, 4, 5] (s3.below (Below.new _ _)) (hB3.alloc hB3.size _) (by simp) (by omega) (by decide) (by decide) (cells_new_ints W3 [1, 2, 2, 3, 3, 4, 5] _)).mono ?_
          rintro e W4 ⟨z, rfl, hz, s4, g4⟩
          have hz2 : 1 ≤ z ∧ z ≤ 5 := by simp at hz; omega
          have hB4 := below_src (hB3.alloc hB3.size _) HB0 g4
          have G4 := grown_trans G3 (grown_trans (grown_of_below (Below.new W3 _) (some b)) g4)
          clear hz
          go_wp2_with fail
          refine (l01DrawOf_any w0 _ b q z s4 hB4 (by omega) q0 hz2.1 hz2.2).mono ?_
          rintro e W5 ⟨u, rfl, hu, s5, g5⟩
          go_wp2_with fail
          go_ret
          exact ⟨u, rfl, by omega, s5, grown_trans G4 g5⟩
        · go_wp2_with fail
          refine (l01Small_any w0 W1 b s1 hB1).mono ?_
          rintro e W2 ⟨u, rfl, hu, s2, g2⟩
          go_wp2_with fail
          go_ret
          exact ⟨u, rfl, by omega, s2, grown_trans g1 g2⟩

set_option maxRecDepth 100000 in
theorem l01Spoil_any (w0 W : World) (b : Nat) (hS : Src w0 W b) (hB : Below w0.heap.size w0 W) :
    Calls Try.prog 117 #[.pointer (some ⟨b, 0, none⟩)] W (DrawnT 200 w0 W b) := by
  have HB0 := hS.ge
  have CN := Lib.hid (l01Draw_any w0 W b hS hB)
  clear hS
  go_enter Try.func117, Try.ntmps117
  go_wp2_with fail
  refine CN.out.mono ?_
  rintro e W1 ⟨x, rfl, hx, s1, g1⟩
  have hB1 := below_src hB HB0 g1
  have CB := Lib.hid (l01Bad_any w0 W1 b x s1 hB1 (by omega))
  go_wp2_with fail
  refine CB.out.mono ?_
  rintro e W2 ⟨y, rfl, hy, s2, g2⟩
  go_wp2_with fail
  go_ret
  exact ⟨y, rfl, by omega, s2, grown_trans g1 g2⟩

end Go.Proofs.Ythjbdcoklgnnlab

/-! ### DrawTwo -/
namespace Go.Proofs.Ythjbdcoklgnnlab
set_option linter.unusedVariables false
set_option linter.unusedSimpArgs false
open Go.RowKit

/-- What a draw of two texts comes to. -/
def TwoT (w : World) (e : Ending) (w' : World) : Prop := ∃ x y : ByteArray, e = .returned (.tuple #[.string x, .string y]) ∧ x.size ≤ 1000 ∧ y.size ≤ 1000 ∧ Below w.heap.size w w'
/-- What a draw of a text and a number comes to. -/
def TextI (w : World) (e : Ending) (w' : World) : Prop := ∃ (x : ByteArray) (k : Int), e = .returned (.tuple #[.string x, .int .i64 k]) ∧ x.size ≤ 1000 ∧ (Lit.int .i64 k).wf = true ∧ Below w.heap.size w w'
theorem wf_near {k : Int} (h0 : -4611686018427387904 ≤ k) (h1 : k ≤ 1099511627776) : (Lit.int .i64 k).wf = true := by
  simp [Lit.wf, IntKind.min, IntKind.max, IntKind.signed, IntKind.bits]
  omega

end Go.Proofs.Ythjbdcoklgnnlab

/-! ### DrawIn -/
namespace Go.Proofs.Ythjbdcoklgnnlab
set_option linter.unusedVariables false
set_option linter.unusedSimpArgs false
open Go.RowKit

/-- What a draw of two numbers comes to. -/
def TwoI (w : World) (e : Ending) (w' : World) : Prop := ∃ (m k : Int), e = .returned (.tuple #[.int .i64 m, .int .i64 k]) ∧ (Lit.int .i64 m).wf = true ∧ (Lit.int .i64 k).wf = true ∧ Below w.heap.size w w'
/-- What a draw of a text and two numbers comes to. -/
def TextII (w : World) (e : Ending) (w' : World) : Prop := ∃ (x : ByteArray) (i m : Int), e = .returned (.tuple #[.string x, .int .i64 i, .int .i64 m]) ∧ x.size ≤ 1000 ∧ (Lit.int .i64 i).wf = true ∧ (Lit.int .i64 m).wf = true ∧ Below w.heap.size w w'
def OneT (w : World) (e : Ending) (w' : World) : Prop := ∃ x : ByteArray, e = .returned (.string x) ∧ x.size ≤ 1000 ∧ Below w.heap.size w w'

end Go.Proofs.Ythjbdcoklgnnlab

/-! ### RenamePlain -/
namespace Go.Proofs.Ythjbdcoklgnnlab
set_option linter.unusedVariables false
set_option linter.unusedSimpArgs false
open Go.RowKit

def renL (x : ByteArray) (L : List Int) : List Int := (numsR x).map fun n => L.getD n.toNat 0
theorem renL_len (x : ByteArray) (L : List Int) : (renL x L).length = x.size := by unfold renL; rw [List.length_map, numsR_len]
theorem renL_get (x : ByteArray) (L : List Int) (k : Nat) (h : k < (renL x L).length) (h' : k < x.size) : (renL x L)[k]'h = L.getD (((x[k]'h').toNat : Int) - 97).toNat 0 := by
  have h2 : k < ((numsR x).map fun n => L.getD n.toNat 0).length := h
  have h3 : k < (numsR x).length := by rw [numsR_len]; exact h'
  have e : ((numsR x).map fun n => L.getD n.toNat 0)[k]'h2 = L.getD ((numsR x)[k]'h3).toNat 0 := List.getElem_map ..
  rw [numsR_get x k h3 h'] at e
  exact e
theorem renL_ok {x : ByteArray} {L : List Int} (hx : IsW x) (hL : L.length = 5) (h : okN L) : okN (renL x L) := by
  intro j hj
  have hj' : j < x.size := by rw [← renL_len x L]; exact hj
  rw [renL_get x L j hj hj']
  have h1 := hx.lo j hj'
  have h2 := hx.hi j hj'
  have h3 : (((x[j]'hj').toNat : Int) - 97).toNat < L.length := by omega
  rw [List.getD_eq_getElem?_getD, List.getElem?_eq_getElem h3]
  exact h _ h3
def mixL (R N : List Int) (k : Nat) : List Int := R.take k ++ N.drop k
theorem mixL_len (R N : List Int) (k : Nat) (h : R.length = N.length) (hk : k ≤ N.length) : (mixL R N k).length = N.length := by simp [mixL]; omega
theorem mixL_zero (R N : List Int) : mixL R N 0 = N := by simp [mixL]
theorem mixL_end (R N : List Int) (h : R.length = N.length) : mixL R N N.length = R := by simp [mixL, ← h]
theorem mixL_get (R N : List Int) (k : Nat) (h : R.length = N.length) (hk : k < N.length) (h2 : k < (mixL R N k).length) : (mixL R N k)[k]'h2 = N[k]'hk := by
  have h1 : (R.take k).length = k := by simp; omega
  have h3 : k < (R.take k ++ N.drop k).length := h2
  have e : (R.take k ++ N.drop k)[k]'h3 = N[k]'hk := by
    rw [List.getElem_append_right (by omega)]
    simp [h1]
  exact e
theorem mixL_step (R N : List Int) (k : Nat) (h : R.length = N.length) (hk : k < R.length) : ((mixL R N k).map (Value.int .i64)).set k (.int .i64 (R[k]'hk)) = (mixL R N (k + 1)).map (Value.int .i64) := by
  have h1 : (R.take k).length = k := by simp; omega
  have h2 : (R.take (k + 1)).length = k + 1 := by simp; omega
  apply List.ext_getElem
  · simp [mixL]; omega
  · intro i h3 h4
    simp only [List.getElem_set, List.getElem_map]
    by_cases e : k = i
    · subst e
      rw [if_pos rfl]
      congr 1
      unfold mixL
      rw [List.getElem_append_left (by omega), List.getElem_take]
    · rw [if_neg e]
      congr 1
      unfold mixL
      simp only [List.getElem_append, h1, h2]
      by_cases h5 : i < k
      · rw [dif_pos h5, dif_pos (by omega)]
        simp
      · rw [dif_neg h5, dif_neg (by omega)]
        simp only [List.getElem_drop]
        congr 1
        omega
def renR (x : ByteArray) (L : List Int) : ByteArray × Int := if ¬ IsW x then (tE, 1) else if L.length ≠ 5 ∨ ¬ okN L then (tE, 2) else (wordB (renL x L), 0)
theorem renR_bad {x : ByteArray} {L : List Int} (h : ¬ IsW x) : renR x L = (⟨#[]⟩, 1) := if_pos h
theorem renR_out {x : ByteArray} {L : List Int} (h : IsW x) (h2 : L.length ≠ 5 ∨ ¬ okN L) : renR x L = (⟨#[]⟩, 2) := by unfold renR; rw [if_neg (not_not_intro h), if_pos h2]; rfl
theorem renR_ok {x : ByteArray} {L : List Int} (h : IsW x) (h5 : L.length = 5) (h2 : okN L) : renR x L = (wordB (renL x L), 0) := by
  unfold renR
  rw [if_neg (not_not_intro h), if_neg (by intro h3; rcases h3 with h3 | h3; exact h3 h5; exact h3 h2)]
theorem letB_byte {n : Int} (h0 : 0 ≤ n) (h4 : n ≤ 4) : Lib.byteCells [letB n] = [Value.int .u8 (97 + n)] := by
  simp [Lib.byteCells, letB_nat h0 h4]

end Go.Proofs.Ythjbdcoklgnnlab

/-! ### Rename -/
namespace Go.Proofs.Ythjbdcoklgnnlab
set_option linter.unusedVariables false
set_option linter.unusedSimpArgs false
open Go.RowKit

set_option maxRecDepth 100000 in
set_option maxHeartbeats 2000000 in
theorem l01Renamed_any (x : ByteArray) (B : Nat) (v : Value) (L : List Int) (w : World) (hx : IsW x) (h : OwnI w B v L) (h5 : L.length = 5) (hok : okN L) :
    Calls Try.prog 187 #[.string x, v] w fun e w' => e = .returned (.string (wordB (renL x L))) ∧ Below w.heap.size w w' := by
  obtain ⟨i0, hi, hz0, hz1, hz2⟩ := info_parts infoU8
  have h1 := hx.size
  obtain ⟨gp, cp, rfl, _, hgp, hcp, _, cell, _⟩ := h.row (by omega)
  have C := Lib.hid cell
  have HX := Lib.hid hx
  have H5 := Lib.hid h5
  have hcp5 : 5 ≤ cp := by omega
  have OK := Lib.hid hok
  have OK2 := Lib.hid (renL_ok hx h5 hok)
  have RL := Lib.hid (renL_len x L)
  clear hx h cell h5 hok
  go_enter Try.func187, Try.ntmps187
  go_wp2
  go_loopw [5, 6] (fun v i wr => ∃ k : Nat, k ≤ x.size ∧ i = .int .i64 k ∧ wr.ownsRow w.heap.size 5 1 v k (Lib.byteCells (wordL ((renL x L).take k))) ∧ Below w.heap.size w wr)
    (fun _ i _ => x.size - (intOf i).toNat)
  case atStart =>
    refine ⟨0, Nat.zero_le _, rfl, ?_, Below.new _ _⟩
    exact World.ownsRow_lit w #[] 0 (Nat.le_refl _) (by decide) (by simp)
  case round =>
    rename_i u5 _ _
    obtain ⟨k, hk, rfl, hown, hB⟩ := hrel
    by_cases hp : k < x.size
    · have hlo := HX.out.lo k hp
      have hhi := HX.out.hi k hp
      have hRl := RL.out
      obtain ⟨n, hn⟩ : ∃ n : Nat, ((x[k]'hp).toNat : Int) = (n : Int) + 97 := ⟨(x[k]'hp).toNat - 97, by omega⟩
      have hn4 : n ≤ 4 := by omega
      have h5 := H5.out
      have hnL : n < L.length := by omega
      have hokn := OK.out n hnL
      have k3 : wr.cell? ⟨gp, n, none⟩ = some (.int .i64 (L[n]'hnL)) := by
        rw [(bcell hB).1 gp n hgp]; exact C.out n hnL
      have hsn := wordL_snoc (renL x L) k (by omega)
      have e1 : ((x[k]'hp).toNat : Int) - 97 = n := by omega
      rw [renL_get x L k (by omega) hp, e1, Int.toNat_natCast, List.getD_eq_getElem?_getD, List.getElem?_eq_getElem hnL, Option.getD_some] at hsn
      have hbc := letB_byte hokn.1 hokn.2
      have HS : Hid (Lib.byteCells (wordL ((renL x L).take k)) ++ [Value.int .u8 (97 + L[n]'hnL)] = Lib.byteCells (wordL ((renL x L).take (k + 1)))) := Lib.hid (by rw [← hbc, ← Lib.byteCells_append, hsn])
      have E1 := Lib.hid e1
      have K3 := Lib.hid k3
      clear hsn hbc e1 hn hRl h5 k3
      generalize hzz : L[n]'hnL = z at *
      clear hzz
      obtain ⟨o1, o2⟩ := hokn
      have hnc : n < cp := by omega
      go_wp2_with fail
      refine (l01At_any x k _ hp h1).mono ?_
      rintro e w2 ⟨rfl, b2⟩
      rw [E1.out]
      have k3 : w2.cell? ⟨gp, n, none⟩ = some (.int .i64 z) := by
        rw [(bcell b2).1 gp n (Nat.lt_of_lt_of_le hgp hB.size)]; exact K3.out
      have hown := own_below hown b2
      have hB := hB.then b2
      have hbz := hB.size
      go_wp2_with (at_builtin; refine wpList_append_own _ rfl _ _ 31 rfl w.heap.size 5 i0 (.int .u8 0) 1 1 Try.underlying31 hi hz0 hz1 hz2 rfl (by decide) _ _ _ rfl (hown.alloc _) ⟨_, 0, none⟩ 1 1 [.int .u8 (97 + z)] rfl rfl (cell_new _ _ _) (by intro u hu; simp at hu; subst hu; rfl) (by unfold maxLen; omega) (by omega) (by simp; omega) ?_; intro v' w3 hown' hgrow _)
      go_roundw
      case rel =>
        refine ⟨k + 1, by omega, by go_num, by rw [← HS.out]; exact hown', ?_⟩
        exact (hB.alloc hbz _).grown hgrow (by simp; omega) (fun q hq => (hown.lt q hq).1)
      case measure => simp [intOf]; omega
    · have hke : x.size ≤ k := by omega
      have hcv : (convert 31 9 u5).run Try.prog wr = .ok (.string (wordB (renL x L))) wr := by
        have hkk : k = (wordL (renL x L)).length := by
          have := RL.out
          simp only [wordL, List.length_map]
          omega
        have h2 := hown
        rw [List.take_of_length_le (by rw [RL.out]; exact hke)] at h2
        rw [hkk] at h2
        exact text_of_own h2
      clear hown
      go_wp2
      go_ret
      exact ⟨rfl, hB⟩

end Go.Proofs.Ythjbdcoklgnnlab

/-! ### Draw03 -/
namespace Go.Proofs.Ythjbdcoklgnnlab
set_option linter.unusedVariables false
set_option linter.unusedSimpArgs false
open Go.RowKit

theorem OwnI.look {w : World} {B : Nat} {v : Value} {L : List Int} (h : OwnI w B v L) : ∃ ad cap, v = .slice ad L.length cap ∧ ∀ j (hj : j < L.length), ∃ g, ad = some ⟨g, 0, none⟩ ∧ g < w.heap.size ∧ j < cap ∧ w.cell? ⟨g, j, none⟩ = some (.int .i64 (L[j]'hj)) := by
  by_cases h0 : L = []
  · subst h0
    obtain ⟨a, c, rfl⟩ := h.empty
    exact ⟨a, c, rfl, fun j hj => absurd hj (Nat.not_lt_zero _)⟩
  · obtain ⟨g, c, rfl, _, hg, hc, _, cell, _⟩ := h.row (List.length_pos_iff.2 h0)
    exact ⟨_, c, rfl, fun j hj => ⟨g, rfl, hg, by omega, cell j hj⟩⟩
theorem triple_let : ∀ q, q < 41 → ∀ b ∈ (namedS 3 q).take q, 97 ≤ b.toNat ∧ b.toNat ≤ 101 := by decide +kernel
theorem triple_w {q : Nat} (h : q < 41) : IsW (bt ((namedS 3 q).take q)) := by
  rw [isW_bl]
  show ((namedS 3 q).take q).length ≤ 60 ∧ _
  exact ⟨by rw [List.length_take]; omega, triple_let q h⟩

set_option maxRecDepth 100000 in
set_option maxHeartbeats 1000000 in
theorem l03Draw_any (w0 W : World) (b : Nat) (hS : Src w0 W b) (hB : Below w0.heap.size w0 W) :
    Calls Try.prog 152 #[.pointer (some ⟨b, 0, none⟩)] W (DrawnT 60 w0 W b) := by
  have HB0 := hS.ge
  have CN := Lib.hid (l01Next_i w0 W b 4 hS hB (by omega) (by omega))
  clear hS
  go_enter Try.func152, Try.ntmps152
  go_wp2_with fail
  refine CN.out.mono ?_
  rintro e W1 ⟨v, rfl, v0, v1, s1, g1⟩
  have hB1 := below_src hB HB0 g1
  have hbl := s1.lt
  by_cases h0 : v = 0
  · subst h0
    have CK := Lib.hid (l01Next_i w0 W1 b 40 s1 hB1 (by omega) (by omega))
    go_wp2_with fail
    refine CK.out.mono ?_
    rintro e W2 ⟨q, rfl, q0, q1, s2, g2⟩
    have hB2 := below_src hB1 HB0 g2
    obtain ⟨q, rfl⟩ := Int.eq_ofNat_of_zero_le q0
    have hway := namesL_way 3 (by decide)
    have CM := Lib.hid (l01Named_some (namesL[3]'(by decide)) q 3 W2 (by omega) (by omega) hway)
    go_wp2_with fail
    refine CM.out.mono ?_
    rintro e W3 ⟨rfl, b3⟩
    have s3 := s2.below b3
    have hB3 := hB2.then b3
    have G3 := grown_trans (grown_trans g1 g2) (grown_of_below b3 (some b))
    have hq60 : (bt ((namedS 3 q).take q)).size ≤ 60 := by rw [bt_size, List.length_take]; omega
    have C1 := Lib.hid (l01Next_i w0 W3 b 5 s3 hB3 (by omega) (by omega))
    clear CM hway g1 g2 s2 hB2 s1 hB1 CN CK b3
    go_wp2_with fail
    refine C1.out.mono ?_
    rintro e W4 ⟨x1, rfl, x10, x11, s4, g4⟩
    have hB4 := below_src hB3 HB0 g4
    have G4 := grown_trans G3 g4
    have C2 := Lib.hid (l01Next_i w0 W4 b 5 s4 hB4 (by omega) (by omega))
    clear C1 s3 hB3 G3 g4
    go_wp2_with fail
    refine C2.out.mono ?_
    rintro e W5 ⟨x2, rfl, x20, x21, s5, g5⟩
    have hB5 := below_src hB4 HB0 g5
    have G5 := grown_trans G4 g5
    have C3 := Lib.hid (l01Next_i w0 W5 b 5 s5 hB5 (by omega) (by omega))
    clear C2 s4 hB4 G4 g5
    go_wp2_with fail
    refine C3.out.mono ?_
    rintro e W6 ⟨x3, rfl, x30, x31, s6, g6⟩
    have hB6 := below_src hB5 HB0 g6
    have G6 := grown_trans G5 g6
    clear C3 s5 hB5 G5 g6
    have hwx := triple_w (q := q) (by omega)
    have hok : okN [x1, x2, x3, 0, 0] := fun j hj => by
      have hj5 : j < 5 := hj
      match j, hj5 with
      | 0, _ => exact ⟨x10, by show x1 ≤ 4; omega⟩
      | 1, _ => exact ⟨x20, by show x2 ≤ 4; omega⟩
      | 2, _ => exact ⟨x30, by show x3 ≤ 4; omega⟩
      | 3, _ => exact ⟨by show (0 : Int) ≤ 0; omega, by show (0 : Int) ≤ 4; omega⟩
      | 4, _ => exact ⟨by show (0 : Int) ≤ 0; omega, by show (0 : Int) ≤ 4; omega⟩
    have hol : OwnI (W6.alloc (.cells #[.int .i64 x1, .int .i64 x2, .int .i64 x3, .int .i64 0, .int .i64 0] 2)) W6.heap.size (.slice (some ⟨W6.heap.size, 0, none⟩) 5 5) [x1, x2, x3, 0, 0] :=
      World.ownsRow_lit W6 #[.int .i64 x1, .int .i64 x2, .int .i64 x3, .int .i64 0, .int .i64 0] 5 (Nat.le_refl _) (by decide) (by simp)
    have CR := Lib.hid (l01Renamed_any (bt ((namedS 3 q).take q)) W6.heap.size _ [x1, x2, x3, 0, 0] _ hwx hol rfl hok)
    have hrs : (wordB (renL (bt ((namedS 3 q).take q)) [x1, x2, x3, 0, 0])).size ≤ 60 := by
      show (wordL _).length ≤ 60
      unfold wordL
      rw [List.length_map, renL_len]
      exact hq60
    have s7 := s6.below (Below.new W6 (.cells #[.int .i64 x1, .int .i64 x2, .int .i64 x3, .int .i64 0, .int .i64 0] 2))
    have G7 := grown_trans G6 (grown_of_below (Below.new W6 (.cells #[.int .i64 x1, .int .i64 x2, .int .i64 x3, .int .i64 0, .int .i64 0] 2)) (some b))
    clear hol hok hwx
    go_wp2_with fail
    refine CR.out.mono ?_
    rintro e W8 ⟨rfl, b8⟩
    generalize wordB (renL (bt ((namedS 3 q).take q)) [x1, x2, x3, 0, 0]) = o at *
    go_wp2_with fail
    go_ret
    exact ⟨o, rfl, hrs, s7.below b8, grown_trans G7 (grown_of_below b8 (some b))⟩
  · by_cases h1 : v = 1
    · subst h1
      go_wp2_with fail
      refine (l01Pick_any w0 _ b _ [2, 3, 3, 4] (s1.below (Below.new _ _)) (hB1.alloc hB1.size _) (by simp) (by omega) (by decide) (by decide) (cells_new_ints W1 [2, 3, 3, 4] _)).mono ?_
      rintro e W2 ⟨k, rfl, hk, s2, g2⟩
      have hk2 : 2 ≤ k ∧ k ≤ 4 := by simp at hk; omega
      have hB2 := below_src (hB1.alloc hB1.size _) HB0 g2
      have G2 := grown_trans g1 (grown_trans (grown_of_below (Below.new W1 _) (some b)) g2)
      clear hk
      have CK := Lib.hid (l01Next_i w0 W2 b 24 s2 hB2 (by omega) (by omega))
      go_wp2_with fail
      refine CK.out.mono ?_
      rintro e W3 ⟨q, rfl, q0, q1, s3, g3⟩
      have hB3 := below_src hB2 HB0 g3
      have G3 := grown_trans G2 g3
      clear CK s2 G2
      go_wp2_with fail
      go_loopg [6, 7] 24 (fun g s6 s7 wr => ∃ (t : ByteArray) (j : Int), 0 ≤ j ∧ j ≤ g ∧ t.size + j.toNat ≤ 24 ∧ s6 = .string t ∧ s7 = .int .i64 j ∧ Src w0 wr b ∧ Below w0.heap.size w0 wr ∧ W.grownBy wr (some b))
      case atStart => exact ⟨⟨#[]⟩, q, by omega, by omega, by show 0 + _ ≤ 24; omega, rfl, rfl, s3, hB3, G3⟩
      case round =>
        obtain ⟨t, j, j0, jg, ht, rfl, rfl, hs, hBr, hG⟩ := hrel
        by_cases hp : 0 < j
        · obtain ⟨g, rfl⟩ : ∃ g, gk = g + 1 := ⟨gk - 1, by omega⟩
          have CK := Lib.hid (l01Next_i w0 wr b k hs hBr (by omega) (by omega))
          go_wp2_with fail
          refine CK.out.mono ?_
          rintro e W4 ⟨c, rfl, c0, c1, s4, g4⟩
          have hB4 := below_src hBr HB0 g4
          have G4 := grown_trans hG g4
          clear CK
          go_wp2_with fail
          refine (l01Letter_any c W4 c0 (by omega)).mono ?_
          rintro e W5 ⟨rfl, b5⟩
          have s5 := s4.below b5
          have hB5 := hB4.then b5
          have G5 := grown_trans G4 (grown_of_below b5 (some b))
          have hsum : ∀ W, (Op.stringOp .add t ⟨#[letB c]⟩).run Try.prog W = .ok (.string (t ++ ⟨#[letB c]⟩)) W := fun W => run_string_add_sum W _ _ (by show t.size + 1 ≤ _; omega)
          have y1 : (t ++ (⟨#[letB c]⟩ : ByteArray)).size = t.size + 1 := by rw [ByteArray.size_append]; rfl
          generalize t ++ (⟨#[letB c]⟩ : ByteArray) = o1 at *
          have CE := Lib.hid (l03First_end o1 ((t.size : Int) + 1) W5 (by omega) (by omega) (by omega))
          clear s4 hB4 G4 g4 hs hBr hG b5
          go_wp2_with fail
          refine CE.out.mono ?_
          rintro e W6 ⟨a, d, rfl, b6⟩
          have s6 := s5.below b6
          have hB6 := hB5.then b6
          have G6 := grown_trans G5 (grown_of_below b6 (some b))
          generalize decide (¬ sa (bl o1) o1.size = 0) = ok
          clear CE s5 hB5 G5 b6
          have CN := Lib.hid (l01Next_i w0 W6 b 9 s6 hB6 (by omega) (by omega))
          cases ok with
          | false =>
            go_wp2_with fail
            go_roundg g
            case measure => omega
            case rel => exact ⟨o1, j - 1, by omega, by omega, by omega, rfl, by go_num, s6, hB6, G6⟩
          | true =>
            go_wp2_with fail
            refine CN.out.mono ?_
            rintro e W7 ⟨z, rfl, z0, z1, s7, g7⟩
            have hB7 := below_src hB6 HB0 g7
            have G7 := grown_trans G6 g7
            by_cases hz : z = 0
            · subst hz
              go_wp2_with fail
              go_roundg g
              case measure => omega
              case rel => exact ⟨o1, j - 1, by omega, by omega, by omega, rfl, by go_num, s7, hB7, G7⟩
            · go_wp2_with fail
              go_roundg g
              case measure => omega
              case rel => exact ⟨t, j - 1, by omega, by omega, by omega, rfl, by go_num, s7, hB7, G7⟩
        · go_wp2_with fail
          go_ret
          exact ⟨t, rfl, by omega, hs, hG⟩
    · have CD := Lib.hid (l01Draw_any w0 W1 b s1 hB1)
      go_wp2_with fail
      refine CD.out.mono ?_
      rintro e W2 ⟨x, rfl, hx, s2, g2⟩
      go_wp2_with fail
      go_ret
      exact ⟨x, rfl, hx, s2, grown_trans g1 g2⟩

set_option maxRecDepth 100000 in
theorem l03Spoil_any (a : Option Addr) (len cap : Nat) (zs : List Int) (w : World) (h : IsRow .u8 w a len cap zs) (hl : len ≤ 1048576) :
    Calls Try.prog 96 #[.slice a len cap] w (OneT w) := by
  have CF := Lib.hid (l01From_any a len cap zs w h hl)
  clear h
  go_enter Try.func96, Try.ntmps96
  go_wp2_with fail
  refine CF.out.mono ?_
  rintro e W0 ⟨rfl, s0, hB0⟩
  have HB0 := s0.ge
  have CD := Lib.hid (l03Draw_any w W0 w.heap.size s0 hB0)
  clear CF
  go_wp2_with fail
  refine CD.out.mono ?_
  rintro e W1 ⟨x, rfl, hx, s1, g1⟩
  have hB1 := below_src hB0 HB0 g1
  have CB := Lib.hid (l01Bad_any w W1 w.heap.size x s1 hB1 (by omega))
  clear CD
  go_wp2_with fail
  refine CB.out.mono ?_
  rintro e W2 ⟨y, rfl, hy, s2, g2⟩
  have hB2 := below_src hB1 HB0 g2
  go_wp2_with fail
  go_ret
  exact ⟨y, rfl, by omega, hB2⟩

set_option maxRecDepth 100000 in
theorem DrawGreatestExponent_any (a : Option Addr) (len cap : Nat) (zs : List Int) (w : World) (h : IsRow .u8 w a len cap zs) (hl : len ≤ 1048576) :
    Calls Try.prog 25 #[.slice a len cap] w (OneT w) := by
  have CF := Lib.hid (l03Spoil_any a len cap zs w h hl)
  clear h
  go_enter Try.func25, Try.ntmps25
  go_wp2_with fail
  refine CF.out.mono ?_
  rintro e W0 ⟨x, rfl, hx, hB⟩
  go_wp2_with fail
  go_ret
  exact ⟨x, rfl, hx, hB⟩

set_option maxRecDepth 100000 in
theorem DrawFirstSquare_any (a : Option Addr) (len cap : Nat) (zs : List Int) (w : World) (h : IsRow .u8 w a len cap zs) (hl : len ≤ 1048576) :
    Calls Try.prog 35 #[.slice a len cap] w (OneT w) := by
  have CF := Lib.hid (l03Spoil_any a len cap zs w h hl)
  clear h
  go_enter Try.func35, Try.ntmps35
  go_wp2_with fail
  refine CF.out.mono ?_
  rintro e W0 ⟨x, rfl, hx, hB⟩
  go_wp2_with fail
  go_ret
  exact ⟨x, rfl, hx, hB⟩
set_option maxRecDepth 100000 in
theorem DrawLettersNext_any (a : Option Addr) (len cap : Nat) (zs : List Int) (w : World) (h : IsRow .u8 w a len cap zs) (hl : len ≤ 1048576) :
    Calls Try.prog 18 #[.slice a len cap] w (TextI w) := by
  have CS := Lib.hid (l03Spoil_any a len cap zs w h hl)
  have CF := Lib.hid (fun (w' : World) (b : Below w.heap.size w w') => l01From_any a len cap zs w' (h.below b) hl)
  clear h
  go_enter Try.func18, Try.ntmps18
  go_wp2_with fail
  refine CS.out.mono ?_
  rintro e V ⟨x, rfl, hx, hV⟩
  have CG := Lib.hid (CF.out V hV)
  clear CF CS
  go_wp2_with fail
  refine CG.out.mono ?_
  rintro e W0 ⟨rfl, s0, hB0⟩
  have HB0 := s0.ge
  have hl0 := s0.lt
  clear CG
  go_wp2_with fail
  refine (l01Pick_any V _ V.heap.size _ [1, 2, 3, 3, 4, 5, 0, 6] (s0.below (Below.new _ _)) (hB0.alloc hB0.size _) (by simp) (by omega) (by decide) (by decide) (cells_new_ints W0 [1, 2, 3, 3, 4, 5, 0, 6] _)).mono ?_
  rintro e W1 ⟨z, rfl, hz, s1, g1⟩
  have hz2 : 0 ≤ z ∧ z ≤ 6 := by simp at hz; omega
  have hB1 := below_src (hB0.alloc hB0.size _) HB0 g1
  clear hz s0 hB0 g1 hl0
  go_wp2_with fail
  go_ret2
  exact ⟨x, z, rfl, hx, wf_near (by omega) (by omega), hV.then hB1⟩

set_option maxRecDepth 100000 in
theorem DrawCountSquareFree_any (a : Option Addr) (len cap : Nat) (zs : List Int) (w : World) (h : IsRow .u8 w a len cap zs) (hl : len ≤ 1048576) :
    Calls Try.prog 32 #[.slice a len cap] w (TwoI w) := by
  have CF := Lib.hid (l01From_any a len cap zs w h hl)
  clear h
  go_enter Try.func32, Try.ntmps32
  go_wp2_with fail
  refine CF.out.mono ?_
  rintro e W0 ⟨rfl, s0, hB0⟩
  have HB0 := s0.ge
  have CM := Lib.hid (l01Near_any w W0 w.heap.size 12 s0 hB0 (by omega) (by omega))
  clear CF
  go_wp2_with fail
  refine CM.out.mono ?_
  rintro e W1 ⟨k, rfl, k0, k1, s1, g1⟩
  have hB1 := below_src hB0 HB0 g1
  have hl1 := s1.lt
  clear CM s0 hB0 g1
  go_wp2_with fail
  refine (l01Pick_any w _ w.heap.size _ [1, 2, 3, 3, 3, 0, 4] (s1.below (Below.new _ _)) (hB1.alloc hB1.size _) (by simp) (by omega) (by decide) (by decide) (cells_new_ints W1 [1, 2, 3, 3, 3, 0, 4] _)).mono ?_
  rintro e W2 ⟨z, rfl, hz, s2, g2⟩
  have hz2 : 0 ≤ z ∧ z ≤ 6 := by simp at hz; omega
  have hB2 := below_src (hB1.alloc hB1.size _) HB0 g2
  clear hz
  go_wp2_with fail
  go_ret2
  exact ⟨k, z, rfl, wf_near k0 k1, wf_near (by omega) (by omega), hB2⟩

set_option maxRecDepth 100000 in
theorem DrawFirstSquareFree_any (a : Option Addr) (len cap : Nat) (zs : List Int) (w : World) (h : IsRow .u8 w a len cap zs) (hl : len ≤ 1048576) :
    Calls Try.prog 29 #[.slice a len cap] w (TwoI w) := by
  have CF := Lib.hid (l01From_any a len cap zs w h hl)
  clear h
  go_enter Try.func29, Try.ntmps29
  go_wp2_with fail
  refine CF.out.mono ?_
  rintro e W0 ⟨rfl, s0, hB0⟩
  have HB0 := s0.ge
  have CM := Lib.hid (l01Near_any w W0 w.heap.size 30 s0 hB0 (by omega) (by omega))
  clear CF
  go_wp2_with fail
  refine CM.out.mono ?_
  rintro e W1 ⟨k, rfl, k0, k1, s1, g1⟩
  have hB1 := below_src hB0 HB0 g1
  have hl1 := s1.lt
  clear CM s0 hB0 g1
  go_wp2_with fail
  refine (l01Pick_any w _ w.heap.size _ [1, 2, 3, 3, 3, 4, 5, 0, 6] (s1.below (Below.new _ _)) (hB1.alloc hB1.size _) (by simp) (by omega) (by decide) (by decide) (cells_new_ints W1 [1, 2, 3, 3, 3, 4, 5, 0, 6] _)).mono ?_
  rintro e W2 ⟨z, rfl, hz, s2, g2⟩
  have hz2 : 0 ≤ z ∧ z ≤ 6 := by simp at hz; omega
  have hB2 := below_src (hB1.alloc hB1.size _) HB0 g2
  clear hz
  go_wp2_with fail
  go_ret2
  exact ⟨k, z, rfl, wf_near k0 k1, wf_near (by omega) (by omega), hB2⟩

end Go.Proofs.Ythjbdcoklgnnlab

/-! ### Like -/
namespace Go.Proofs.Ythjbdcoklgnnlab
set_option linter.unusedVariables false
set_option linter.unusedSimpArgs false
open Go.RowKit

set_option maxRecDepth 100000 in
theorem big_no (a : Option Addr) (len cap : Nat) (w : World) (h : len ≤ 4096) :
    Calls Try.prog 17 #[.slice a len cap] w fun e w' => e = .returned (.bool false) ∧ Below w.heap.size w w' := by
  go_enter Try.func17, Try.ntmps17
  go_wp2
  go_ret
  exact ⟨ret_bool (by simp; omega), Below.refl _ _⟩
set_option maxRecDepth 100000 in
theorem big_yes (a : Option Addr) (len cap : Nat) (w : World) (h : 4096 < len) :
    Calls Try.prog 17 #[.slice a len cap] w fun e w' => e = .returned (.bool true) ∧ Below w.heap.size w w' := by
  go_enter Try.func17, Try.ntmps17
  go_wp2
  go_ret
  exact ⟨ret_bool (by simp; omega), Below.refl _ _⟩

set_option maxRecDepth 100000 in
theorem likeInts_yes (B1 B2 : Nat) (v1 v2 : Value) (L : List Int) (w : World) (h1 : OwnI w B1 v1 L) (h2 : OwnI w B2 v2 L) :
    Calls Try.prog 21 #[v1, v2] w fun e w' => e = .returned (.bool true) ∧ Below w.heap.size w w' := by
  by_cases h0 : L = []
  · subst h0
    obtain ⟨a1, c1, rfl⟩ := h1.empty
    obtain ⟨a2, c2, rfl⟩ := h2.empty
    clear h1 h2
    go_enter Try.func21, Try.ntmps21
    go_wp2
    refine wp_loop_rounds 1 ?_
    rw [rounds_succ]
    go_wp2
    go_ret
    exact ⟨rfl, Below.refl _ _⟩
  · have hn : 0 < L.length := List.length_pos_iff.2 h0
    obtain ⟨g1, c1, rfl, _, hg1, hc1, hm, cell1, _⟩ := h1.row hn
    obtain ⟨g2, c2, rfl, _, hg2, hc2, _, cell2, _⟩ := h2.row hn
    unfold maxLen at hm
    have C1 := Lib.hid cell1
    have C2 := Lib.hid cell2
    clear h1 h2 cell1 cell2 h0
    go_enter Try.func21, Try.ntmps21
    go_wp2
    go_loopw [5] (fun i wr => ∃ k : Nat, k ≤ L.length ∧ i = .int .i64 k ∧ Below w.heap.size w wr) (fun i _ => L.length - (intOf i).toNat)
    case atStart => exact ⟨0, Nat.zero_le _, rfl, Below.refl _ _⟩
    case round =>
      obtain ⟨k, hk, rfl, hB⟩ := hrel
      by_cases hp : k < L.length
      · have k1 : wr.cell? ⟨g1, k, none⟩ = some (.int .i64 (L[k]'hp)) := by rw [(bcell hB).1 g1 k hg1]; exact C1.out k hp
        have k2 : wr.cell? ⟨g2, k, none⟩ = some (.int .i64 (L[k]'hp)) := by rw [(bcell hB).1 g2 k hg2]; exact C2.out k hp
        have hpc1 : k < c1 := by omega
        have hpc2 : k < c2 := by omega
        generalize L[k]'hp = z at k1 k2
        go_wp2
        go_quiet (fail)
        go_wp2
        go_roundw
        case rel => exact ⟨k + 1, by omega, by go_num, hB.drewN _⟩
        case measure => simp [intOf]; omega
      · go_wp2
        go_ret
        exact ⟨rfl, hB⟩

end Go.Proofs.Ythjbdcoklgnnlab

/-! ### Marks -/
namespace Go.Proofs.Ythjbdcoklgnnlab
set_option linter.unusedVariables false
set_option linter.unusedSimpArgs false
open Go.RowKit Go.Shelf

def mkD (D : Nat) : Deferred := { target := .collected D, args := #[] }
/-- The marks: each one's record stands, and no two are one. -/
def MarksAt (W : World) (lo : Nat) (Ds : List Nat) : Prop := Ds.Nodup ∧ ∀ D ∈ Ds, lo ≤ D ∧ W.heap[D]? = some (.deferred (some []))
theorem MarksAt.nil (W : World) (lo : Nat) : MarksAt W lo [] := ⟨List.nodup_nil, fun D h => by cases h⟩
theorem MarksAt.lt {W : World} {lo : Nat} {Ds : List Nat} (h : MarksAt W lo Ds) : ∀ D ∈ Ds, D < W.heap.size := fun D hD => (Array.getElem?_eq_some_iff.1 (h.2 D hD).2).1
theorem MarksAt.keep {W W' : World} {lo : Nat} {Ds : List Nat} (h : MarksAt W lo Ds) (hk : ∀ (b : Nat) (o : Obj), W.heap[b]? = some o → o.isCells = false → W'.heap[b]? = some o) : MarksAt W' lo Ds := ⟨h.1, fun D hD => ⟨(h.2 D hD).1, hk D _ (h.2 D hD).2 rfl⟩⟩
theorem MarksAt.cons {W : World} {lo : Nat} {Ds : List Nat} {D : Nat} (h : MarksAt W lo Ds) (hD : lo ≤ D) (hK : W.heap[D]? = some (.deferred (some []))) (hn : D ∉ Ds) : MarksAt W lo (D :: Ds) :=
  ⟨List.nodup_cons.2 ⟨hn, h.1⟩, fun E hE => by rcases List.mem_cons.1 hE with rfl | hE; exact ⟨hD, hK⟩; exact h.2 E hE⟩

/-- Both boxes of the results are written. -/
theorem two_boxes {w W : World} {b : Nat} {t u : TypeId} {v v' x x' : Value} (v2 : Boxed W b t v) (v3 : Boxed W (b + 1) u v') (hB : Below w.heap.size w W) (hb : w.heap.size ≤ b) :
    Boxed ((W.setCell ⟨b, 0, none⟩ x).setCell ⟨b + 1, 0, none⟩ x') b t x ∧ Boxed ((W.setCell ⟨b, 0, none⟩ x).setCell ⟨b + 1, 0, none⟩ x') (b + 1) u x' ∧ Below w.heap.size w ((W.setCell ⟨b, 0, none⟩ x).setCell ⟨b + 1, 0, none⟩ x') ∧
    (∀ B, b + 1 < B → KeepsFrom B W ((W.setCell ⟨b, 0, none⟩ x).setCell ⟨b + 1, 0, none⟩ x')) ∧ ∀ D, D < W.heap.size → D ≠ b → D ≠ b + 1 → ((W.setCell ⟨b, 0, none⟩ x).setCell ⟨b + 1, 0, none⟩ x').heap[D]? = W.heap[D]? := by
  refine ⟨(v2.set _).kept (grownBy_setCell' _ _ _) (fun e => by have := Option.some.inj e; omega), (v3.kept (grownBy_setCell' _ _ _) (fun e => by have := Option.some.inj e; omega)).set _, (hB.setCell (p := ⟨b, 0, none⟩) hb _).setCell (p := ⟨b + 1, 0, none⟩) (by show w.heap.size ≤ b + 1; omega) _, fun B h => (KeepsFrom.of_grownBy (grownBy_setCell' _ _ _) (fun j e => by cases e; omega)).trans (KeepsFrom.of_grownBy (grownBy_setCell' _ _ _) (fun j e => by cases e; omega)), fun D h1 h2 h3 => ?_⟩
  rw [(grownBy_setCell' _ _ _).block D (by simpa [World.setCell] using h1) (fun e => by have := Option.some.inj e; omega), (grownBy_setCell' _ _ _).block D h1 (fun e => by have := Option.some.inj e; omega)]
theorem MarksAt.old {W W' : World} {lo : Nat} {Ds : List Nat} (h : MarksAt W lo Ds) (hk : ∀ b, b < W.heap.size → W'.heap[b]? = W.heap[b]?) : MarksAt W' lo Ds := ⟨h.1, fun D hD => ⟨(h.2 D hD).1, (hk D (h.lt D hD)).trans (h.2 D hD).2⟩⟩
/-- A record of a mark is no box. -/
theorem MarksAt.not_box {W : World} {lo : Nat} {Ds : List Nat} (h : MarksAt W lo Ds) {b : Nat} {t : TypeId} {v : Value} (hb : Boxed W b t v) : b ∉ Ds := fun hm => by
  have h1 := (h.2 b hm).2
  have h2 : W.heap[b]? = _ := hb
  rw [h2] at h1
  cases h1

theorem leaves_marks {F : Fence} {n : Nat} {P : Program} {fn : Func} {tmps : Array Value} {R : Ending → World → Prop} (St : World → Prop) (hfin : ∀ W, St W → LeavesIn F n P fn tmps R [] .returning W) :
    ∀ (Ds : List Nat) (W : World) (lo : Nat), MarksAt W lo Ds → (∀ D W, lo ≤ D → St W → W.heap[D]? = some (.deferred (some [])) → St (W.putObj D (.deferred none))) → St W → LeavesInM F n P fn tmps R (Ds.map mkD) .returning W
  | [], W, lo, _, _, hs => hfin W hs
  | D :: Ds, W, lo, hM, hP, hs => by
    have hD := hM.2 D (List.mem_cons_self ..)
    have hn := List.nodup_cons.1 hM.1
    refine ⟨by simp, .inl ⟨D, _, rfl, run_takeDeferred hD.2, leaves_marks St hfin Ds _ lo ⟨hn.2, fun E hE => ⟨(hM.2 E (List.mem_cons_of_mem _ hE)).1, ?_⟩⟩ hP (hP D W hD.1 hs hD.2)⟩⟩
    rw [World.putObj_heap_other (fun e => hn.1 (by rw [← e]; exact hE))]
    exact (hM.2 E (List.mem_cons_of_mem _ hE)).2

end Go.Proofs.Ythjbdcoklgnnlab

/-! ### GeS -/
namespace Go.Proofs.Ythjbdcoklgnnlab
set_option linter.unusedVariables false
set_option linter.unusedSimpArgs false
open Go.RowKit

theorem ext_get (x : ByteArray) (i m d : Nat) (h : i + m ≤ x.size) (hd : d < m) : (bl (x.extract i (i + m)))[d]? = (bl x)[i + d]? := by
  rw [bl_extract, List.getElem?_take_of_lt (by omega), List.getElem?_drop]
/-- What a test of a period has seen. -/
def PerUp (l : List UInt8) (q t : Nat) : Prop := ∀ d, d < t → d + q < l.length → l[d]? = l[d + q]?
theorem PerUp.start (l : List UInt8) (q : Nat) : PerUp l q 0 := fun d h => by omega
theorem PerUp.succ {l : List UInt8} {q t : Nat} (h : PerUp l q t) (k : l[t]? = l[t + q]?) : PerUp l q (t + 1) := fun d hd hl => by
  by_cases e : d = t
  · subst e; exact k
  · exact h d (by omega) hl
theorem PerUp.done {l : List UInt8} {q t : Nat} (h : PerUp l q t) (ht : l.length ≤ t + q) : Per l q := fun d hd => h d (by omega) hd

set_option maxRecDepth 100000 in
set_option maxHeartbeats 2000000 in
theorem l03Period_any (x : ByteArray) (i m : Nat) (z : Int) (w : World) (hx : x.size ≤ 60) (hm : 0 < m) (him : i + m ≤ x.size) (hz : z = (i : Int) + (m : Int)) :
    Calls Try.prog 109 #[.string x, .int .i64 (i : Int), .int .i64 z] w fun e w' => e = .returned (.int .i64 (lpf x i m : Int)) ∧ Below w.heap.size w w' := by
  have zy : (bl (x.extract i (i + m))).length = m := by rw [bl_len]; simp; omega
  have hne : bl (x.extract i (i + m)) ≠ [] := fun e => by rw [e] at zy; simp at zy; omega
  have EG := fun d (hd : d < m) => ext_get x i m d him hd
  unfold lpf
  generalize bl (x.extract i (i + m)) = l at *
  have HEG := Lib.hid EG
  have HZ := Lib.hid zy
  have HNE := Lib.hid hne
  clear EG zy hne
  subst hz
  go_enter Try.func109, Try.ntmps109
  go_wp2
  go_loopg [7] m (fun g s7 wr => ∃ k : Nat, k + g = m ∧ k < m ∧ s7 = .int .i64 ((k : Int) + 1) ∧ Below w.heap.size w wr ∧ Hid (∀ q, 0 < q → q < k + 1 → ¬ Per l q))
  case atStart => exact ⟨0, by omega, hm, rfl, Below.refl _ _, Lib.hid fun q h2 h3 => by omega⟩
  case round =>
    obtain ⟨k, hk, hkm, rfl, hB, HQ⟩ := hrel
    obtain ⟨g, rfl⟩ : ∃ g, gk = g + 1 := ⟨gk - 1, by omega⟩
    by_cases hp : k + 1 < m
    · have hpi : (k : Int) + 1 < (i : Int) + (m : Int) - (i : Int) := by omega
      go_wp2
      go_loopg [8, 9] (m + 1) (fun g2 s8 s9 wr => ∃ (t : Nat) (good : Bool), t + g2 = m + 1 ∧ t ≤ m ∧ s8 = .bool good ∧ s9 = .int .i64 ((i : Int) + (t : Int)) ∧ Below w.heap.size w wr ∧ Hid (if good = true then PerUp l (k + 1) t else ¬ Per l (k + 1)))
      case atStart => exact ⟨0, true, by omega, by omega, rfl, by simp, hB, Lib.hid (PerUp.start _ _)⟩
      case round =>
        clear hB
        obtain ⟨t, good, ht, htm, rfl, rfl, hB, HU⟩ := hrel
        cases good with
        | false =>
          have HN : Hid (∀ q, 0 < q → q < k + 1 + 1 → ¬ Per l q) := Lib.hid fun q q0 q1 => by
            by_cases e : q = k + 1
            · subst e; exact HU.out
            · exact HQ.out q q0 (by omega)
          by_cases hc2 : (i : Int) + (t : Int) + ((k : Int) + 1) < (i : Int) + (m : Int)
          · go_wp2
            go_roundg g
            case measure => omega
            case rel => exact ⟨k + 1, by omega, by omega, by go_num, hB, HN⟩
          · go_wp2
            go_roundg g
            case measure => omega
            case rel => exact ⟨k + 1, by omega, by omega, by go_num, hB, HN⟩
        | true =>
          have HU2 : Hid (PerUp l (k + 1) t) := Lib.hid (by have := HU.out; simpa using this)
          clear HU
          by_cases hc : t + (k + 1) < m
          · obtain ⟨g2, rfl⟩ : ∃ g2, gk = g2 + 1 := ⟨gk - 1, by omega⟩
            have z1 : i + t < x.size := by omega
            have z2 : i + (t + (k + 1)) < x.size := by omega
            have hle : (x[i + t]'z1).toNat = (x[i + (t + (k + 1))]'z2).toNat ↔ l[t]? = l[t + (k + 1)]? := by
              rw [HEG.out t (by omega), HEG.out (t + (k + 1)) hc]
              exact letter_eq x _ _ z1 z2
            have hix1 : ∀ W, (Instr.index 9 (.string x) (.int .i64 ((i : Int) + (t : Int)))).run Try.prog W = .ok (.int .u8 ((x[i + t]'z1).toNat : Int)) W := fun W => index_at x _ (i + t) z1 (by omega) W
            have hix2 : ∀ W, (Instr.index 9 (.string x) (.int .i64 ((i : Int) + (t : Int) + ((k : Int) + 1)))).run Try.prog W = .ok (.int .u8 ((x[i + (t + (k + 1))]'z2).toNat : Int)) W := fun W => index_at x _ (i + (t + (k + 1))) z2 (by omega) W
            generalize (x[i + t]'z1).toNat = a at hle hix1
            generalize (x[i + (t + (k + 1))]'z2).toNat = b at hle hix2
            have hc2 : (i : Int) + (t : Int) + ((k : Int) + 1) < (i : Int) + (m : Int) := by omega
            by_cases he : a = b
            · have HL := Lib.hid (HU2.out.succ (hle.1 he))
              have hee : (a : Int) = (b : Int) := by omega
              clear hle he
              go_wp2
              go_quiet (fail)
              go_wp2
              go_roundg g2
              case measure => omega
              case rel => exact ⟨t + 1, true, by omega, by omega, by first | rfl | simp [hee], by go_num, hB.drewN _, HL⟩
            · have hee : ¬ (a : Int) = (b : Int) := by omega
              have HN : Hid (¬ Per l (k + 1)) := Lib.hid fun hper => he (hle.2 (hper t (by rw [HZ.out]; exact hc)))
              clear hle he
              go_wp2
              go_quiet (fail)
              go_wp2
              go_roundg g2
              case measure => omega
              case rel => exact ⟨t + 1, false, by omega, by omega, by first | rfl | simp [hee], by go_num, hB.drewN _, Lib.hid (by rw [if_neg (by decide)]; exact HN.out)⟩
          · have hlo : lp l = k + 1 := lp_of ⟨by omega, by rw [HZ.out]; omega, HU2.out.done (by rw [HZ.out]; omega), HQ.out⟩
            have HL := Lib.hid hlo
            have hc2 : ¬ (i : Int) + (t : Int) + ((k : Int) + 1) < (i : Int) + (m : Int) := by omega
            clear hlo
            go_wp2
            go_ret
            exact ⟨by rw [HL.out]; rfl, hB⟩
    · have hkm2 : k + 1 = m := by omega
      have hlo : lp l = m := lp_of ⟨hm, by rw [HZ.out]; exact Nat.le_refl _, by have := per_all l; rwa [HZ.out] at this, fun q q0 q1 => HQ.out q q0 (by omega)⟩
      have HL := Lib.hid hlo
      have hpi : ¬ (k : Int) + 1 < (i : Int) + (m : Int) - (i : Int) := by omega
      clear hlo
      go_wp2
      go_ret
      refine ⟨?_, hB⟩
      rw [HL.out]
      have : (i : Int) + (m : Int) - (i : Int) = (m : Int) := by omega
      first
        | rfl
        | (simp; omega)

set_option maxRecDepth 100000 in
set_option maxHeartbeats 4000000 in
theorem spec_Ge_ok (x : ByteArray) (w : World) (h : IsW x) (h0 : ¬ x.size = 0) :
    Calls Try.prog 27 #[.string x] w fun e w' => e = .returned (.tuple #[.int .i64 (geR x).1, .int .i64 (geR x).2.1, .int .i64 (geR x).2.2]) ∧ Below w.heap.size w w' := by
  have hx := h.size
  have hq := teq_not_nil h0
  have H := Lib.hid h
  have GR := Lib.hid fun s (hs : GeB x allS s) => geR_ok h h0 hs
  clear h
  generalize geR x = R at *
  go_enter Try.func27, Try.ntmps27
  go_wp2_with fail
  refine (l01Is_yes x _ H.out).mono ?_
  rintro e w1 ⟨rfl, b1⟩
  go_wp2_with fail
  go_loopg [5, 6, 8] x.size (fun g s5 s6 s8 wr => ∃ (i : Nat) (s : Nat × Nat), i + g = x.size ∧ s8 = .int .i64 (i : Int) ∧ s5 = .int .i64 (s.1 : Int) ∧ s6 = .int .i64 (s.2 : Int) ∧ Below w.heap.size w wr ∧ Hid (GeB x (fun i' m' => i' < i) s))
  case atStart => exact ⟨0, (1, 1), by omega, rfl, rfl, rfl, b1, Lib.hid (GeB.start x fun i m h => by omega)⟩
  case round =>
    obtain ⟨i, s, hg, rfl, rfl, rfl, hB, HG⟩ := hrel
    by_cases hp : i < x.size
    · obtain ⟨g, rfl⟩ : ∃ g, gk = g + 1 := ⟨gk - 1, by omega⟩
      have HG1 : Hid (GeB x (fun i' m' => i' < i ∨ (i' = i ∧ m' < 1)) s) := Lib.hid (HG.out.mono fun i' m' hs h1 h2 => by omega)
      have hpi : (i : Int) < (x.size : Int) := by omega
      go_wp2
      go_loopg [5, 6, 9] (x.size + 1 - i) (fun g2 s5 s6 s9 wr => ∃ (m : Nat) (s : Nat × Nat), 0 < m ∧ i + m + g2 = x.size + 2 ∧ i + m ≤ x.size + 1 ∧ s9 = .int .i64 ((i : Int) + (m : Int)) ∧ s5 = .int .i64 (s.1 : Int) ∧ s6 = .int .i64 (s.2 : Int) ∧ Below w.heap.size w wr ∧ Hid (GeB x (fun i' m' => i' < i ∨ (i' = i ∧ m' < m)) s))
      case atStart => exact ⟨1, s, by omega, by omega, by omega, by simp, rfl, rfl, hB, HG1⟩
      case round =>
        clear hB HG HG1
        obtain ⟨m, s, hm, hg2, hle, rfl, rfl, rfl, hB, HG⟩ := hrel
        by_cases hc : i + m ≤ x.size
        · obtain ⟨g2, rfl⟩ : ∃ g2, gk = g2 + 1 := ⟨gk - 1, by omega⟩
          have HS : Hid (GeB x (fun i' m' => i' < i ∨ (i' = i ∧ m' < m + 1)) (geStep s m (lpf x i m))) := Lib.hid ((HG.out.step hm hc).mono fun i' m' hs h1 h2 => by omega)
          have hb1 := HG.out.2.2.1
          have hb2 := HG.out.2.2.2.1
          have hb3 := HG.out.1
          have hb4 := HG.out.2.1
          have hb5 := lpf_bd hm hc
          have CP := Lib.hid fun w => l03Period_any x i m ((i : Int) + (m : Int)) w hx hm hc rfl
          obtain ⟨s1, s2⟩ := s
          have hci : (i : Int) + (m : Int) ≤ (x.size : Int) := by omega
          dsimp only at *
          generalize lpf x i m = q at *
          obtain ⟨P, hP⟩ : ∃ P, m * s2 = P := ⟨_, rfl⟩
          obtain ⟨Q, hQ⟩ : ∃ Q, s1 * q = Q := ⟨_, rfl⟩
          have hPi : ((i : Int) + (m : Int) - (i : Int)) * (s2 : Int) = (P : Int) := by rw [← hP, Int.natCast_mul]; congr 1; omega
          have hPi2 : (m : Int) * (s2 : Int) = (P : Int) := by rw [← hP, Int.natCast_mul]
          have hQi : (s1 : Int) * (q : Int) = (Q : Int) := by rw [← hQ, Int.natCast_mul]
          have hPl : P ≤ 3600 := by rw [← hP]; exact Nat.mul_le_mul (show m ≤ 60 by omega) (show s2 ≤ 60 by omega)
          have hQl : Q ≤ 3600 := by rw [← hQ]; exact Nat.mul_le_mul (show s1 ≤ 60 by omega) (show q ≤ 60 by omega)
          have hp1 : (0 : Int) ≤ ((i : Int) + (m : Int) - (i : Int)) * (s2 : Int) := by omega
          have hp2 : (0 : Int) ≤ (m : Int) * (s2 : Int) := by omega
          have hp3 : (0 : Int) ≤ (s1 : Int) * (q : Int) := by omega
          by_cases hgt : Q < P
          · have HS2 : Hid (GeB x (fun i' m' => i' < i ∨ (i' = i ∧ m' < m + 1)) (m, q)) := Lib.hid (by have := HS.out; unfold geStep at this; rwa [if_pos (show s1 * q < m * s2 by omega)] at this)
            have hgi : (Q : Int) < (P : Int) := by omega
            have hmm : (i : Int) + (m : Int) - (i : Int) = (m : Int) := by omega
            have HMM := Lib.hid hmm
            clear hP hQ HS HG hgt hmm
            go_wp2_with fail
            refine (CP.out _).mono ?_
            rintro e w2 ⟨rfl, b2⟩
            go_wp2_with fail
            go_roundg g2
            case measure => omega
            case rel => exact ⟨m + 1, (m, q), by omega, by omega, by omega, by go_num, by first | rfl | rw [HMM.out], rfl, hB.then b2, HS2⟩
          · have HS2 : Hid (GeB x (fun i' m' => i' < i ∨ (i' = i ∧ m' < m + 1)) (s1, s2)) := Lib.hid (by have := HS.out; unfold geStep at this; rwa [if_neg (show ¬ s1 * q < m * s2 by omega)] at this)
            have hgi : ¬ (Q : Int) < (P : Int) := by omega
            clear hP hQ HS HG hgt
            go_wp2_with fail
            refine (CP.out _).mono ?_
            rintro e w2 ⟨rfl, b2⟩
            go_wp2_with fail
            go_roundg g2
            case measure => omega
            case rel => exact ⟨m + 1, (s1, s2), by omega, by omega, by omega, by go_num, rfl, rfl, hB.then b2, HS2⟩
        · have HN : Hid (GeB x (fun i' m' => i' < i + 1) s) := Lib.hid (HG.out.mono fun i' m' hs h1 h2 => by omega)
          have hci : ¬ (i : Int) + (m : Int) ≤ (x.size : Int) := by omega
          go_wp2
          go_roundg g
          case measure => omega
          case rel => exact ⟨i + 1, s, by omega, by go_num, rfl, rfl, hB, HN⟩
    · have HN : Hid (GeB x allS s) := Lib.hid (HG.out.mono fun i' m' hs h1 h2 => by omega)
      have hpi : ¬ (i : Int) < (x.size : Int) := by omega
      have hb1 := HN.out.2.2.1
      have hb2 := HN.out.2.2.2.1
      have hb3 := HN.out.1
      have hb4 := HN.out.2.1
      have HV := Lib.hid (GR.out s HN.out)
      obtain ⟨s1, s2⟩ := s
      dsimp only at *
      have hg0 := Nat.gcd_pos_of_pos_left s2 hb3
      clear GR HG
      go_wp2
      go_loopg [11, 12] (s2 + 1) (fun g s11 s12 wr => ∃ p q : Nat, q < g ∧ s11 = .int .i64 (p : Int) ∧ s12 = .int .i64 (q : Int) ∧ Hid (Nat.gcd p q = Nat.gcd s1 s2) ∧ Below w.heap.size w wr)
      case atStart => exact ⟨s1, s2, by omega, rfl, rfl, Lib.hid rfl, hB⟩
      case round =>
        clear hB
        obtain ⟨p, q, hqg, rfl, rfl, HD, hB⟩ := hrel
        by_cases hq0 : 0 < q
        · have hst := gcd_step p q
          have hlt := Nat.mod_lt p hq0
          have HS : Hid (Nat.gcd q (p % q) = Nat.gcd s1 s2) := Lib.hid (by rw [hst]; exact HD.out)
          have hmod : (p : Int) % (q : Int) = ((p % q : Nat) : Int) := by simp
          generalize p % q = r at hmod HS hlt
          have hqz : ¬ (q : Int) = 0 := by omega
          have hqb : ((q : Int) != 0) = true := by rw [bne_iff_ne]; exact hqz
          clear hst
          go_wp2
          go_roundg q
          case measure => omega
          case rel => exact ⟨q, r, hlt, rfl, by rw [hmod], HS, hB⟩
        · have hqe : q = 0 := by omega
          subst hqe
          have HP : Hid (p = Nat.gcd s1 s2) := Lib.hid (by rw [← HD.out, Nat.gcd_zero_right])
          have hpz : ¬ (p : Int) = 0 := by have := HP.out; omega
          go_wp2
          go_quiet (fail)
          go_wp2
          go_ret3
          refine ⟨?_, hB.drewN _⟩
          rw [HV.out, ← HP.out, ← wrap_quo s1 p (by omega), ← wrap_quo s2 p (by omega)]
          rfl

set_option maxRecDepth 100000 in
theorem spec_GreatestExponent (x : ByteArray) (w : World) (sx : x.size ≤ maxLen) :
    Calls Try.prog 27 #[.string x] w fun e w' => e = .returned (.tuple #[.int .i64 (geR x).1, .int .i64 (geR x).2.1, .int .i64 (geR x).2.2]) ∧ Below w.heap.size w w' := by
  by_cases h : IsW x
  · by_cases h0 : x.size = 0
    · rw [geR_nil h h0]
      have hq := teq_nil h0
      have H := Lib.hid h
      clear h
      go_enter Try.func27, Try.ntmps27
      go_wp2_with fail
      refine (l01Is_yes x _ H.out).mono ?_
      rintro e w1 ⟨rfl, b1⟩
      go_wp2_with fail
      go_ret3
      exact ⟨rfl, b1⟩
    · exact spec_Ge_ok x w h h0
  · rw [geR_bad h]
    have H := Lib.hid h
    clear h
    go_enter Try.func27, Try.ntmps27
    go_wp2_with fail
    refine (l01Is_no x _ sx H.out).mono ?_
    rintro e w1 ⟨rfl, b1⟩
    go_wp2_with fail
    go_ret3
    exact ⟨rfl, b1⟩

end Go.Proofs.Ythjbdcoklgnnlab

/-! ### Ge -/
namespace Go.Proofs.Ythjbdcoklgnnlab
set_option linter.unusedVariables false
set_option linter.unusedSimpArgs false
open Go.RowKit Go.Shelf
attribute [local go_sem] Oper.semAt_some

/-- How the search stands at the head of a round. -/
def GeAt (x : ByteArray) (w : World) (B5 : Nat) (gk : Nat) (a : Act) (W : World) : Prop :=
  ∃ (u1 u2 u3 u4 u8 u9 u10 u11 u12 u13 u14 u15 u16 u17 u18 u19 u20 u21 u22 u23 u24 u25 u26 u27 u28 u29 u30 u31 u32 u33 u34 u35 u36 u37 u38 u39 u40 u41 u42 u43 u44 u45 u46 u47 u48 : Value) (n B7 : Nat) (Ds : List Nat) (s : Nat × Nat), a = { tmps := #[.string x, u1, u2, u3, u4, .pointer (some ⟨B5, 0, none⟩), .pointer (some ⟨B5 + 1, 0, none⟩), .pointer (some ⟨B7, 0, none⟩), u8, u9, u10, u11, u12, u13, u14, u15, u16, u17, u18, u19, u20, u21, u22, u23, u24, u25, u26, u27, u28, u29, u30, u31, u32, u33, u34, u35, u36, u37, u38, u39, u40, u41, u42, u43, u44, u45, u46, u47, u48], defers := Ds.map mkD } ∧ (n ≤ x.size → n + gk = x.size + 1) ∧ 2 ≤ n ∧ n ≤ 61 ∧
    Boxed W B5 2 (.int .i64 (s.1 : Int)) ∧ Boxed W (B5 + 1) 2 (.int .i64 (s.2 : Int)) ∧ Boxed W B7 2 (.int .i64 (n : Int)) ∧ w.heap.size ≤ B5 ∧ B5 + 2 ≤ B7 ∧ Below w.heap.size w W ∧ MarksAt W w.heap.size Ds ∧ Hid (GeB x (fun i m => 2 ≤ m ∧ m < n) s)

set_option maxRecDepth 100000 in
set_option maxHeartbeats 4000000 in
theorem impl_Ge_ok (x : ByteArray) (R : Int × Int × Int) (w : World) (h : IsW x) (h0 : ¬ x.size = 0) (hR : geR x = R) :
    CallsIn Fence.wide 4 Try.prog 26 #[.string x] w fun e w' => e = .returned (.tuple #[.int .i64 R.1, .int .i64 R.2.1, .int .i64 R.2.2]) ∧ Below w.heap.size w w' := by
  have hx := h.size
  have hq := teq_not_nil h0
  have H := Lib.hid h
  have GR : Hid (∀ s, GeB x allS s → R = (((s.1 / Nat.gcd s.1 s.2 : Nat) : Int), ((s.2 / Nat.gcd s.1 s.2 : Nat) : Int), 0)) := Lib.hid fun s hs => by rw [← hR]; exact geR_ok h h0 hs
  clear h hR
  refine callsIn_of_wp_marks Try.func26 rfl trivial ?_ rfl
  simp only [Try.ntmps26, List.size_toArray, List.length_cons, List.length_nil, Nat.reduceAdd, Nat.reduceSub, Array.replicate_succ, Array.replicate_zero, List.push_toArray, List.append_toArray, List.nil_append, List.cons_append]
  gi_wp2_with (refine ⟨trivial, ?_⟩; gi_at_call 85; refine (callsIn_wide.2 (isWord_yes x _ H.out)).mono ?_; rintro e w1 ⟨rfl, b1⟩)
  have hb1 : Below w.heap.size w w1 := b1
  have hw1 := hb1.size
  have p5 : Boxed (((w1.alloc (.cells #[.int .i64 1] 2)).alloc (.cells #[.int .i64 1] 2)).alloc (.cells #[.int .i64 2] 2)) w1.heap.size 2 (.int .i64 1) := ((Boxed.new w1 _ _).alloc _).alloc _
  have p6 : Boxed (((w1.alloc (.cells #[.int .i64 1] 2)).alloc (.cells #[.int .i64 1] 2)).alloc (.cells #[.int .i64 2] 2)) (w1.heap.size + 1) 2 (.int .i64 1) := by
    have := Boxed.new (w1.alloc (.cells #[.int .i64 1] 2)) 2 (.int .i64 1)
    rw [World.size_alloc] at this
    exact this.alloc _
  have p7 : Boxed (((w1.alloc (.cells #[.int .i64 1] 2)).alloc (.cells #[.int .i64 1] 2)).alloc (.cells #[.int .i64 2] 2)) (w1.heap.size + 1 + 1) 2 (.int .i64 2) := by
    have := Boxed.new ((w1.alloc (.cells #[.int .i64 1] 2)).alloc (.cells #[.int .i64 1] 2)) 2 (.int .i64 2)
    simp only [World.size_alloc] at this
    exact this
  refine wpIn_loop_ghost_k (fun g a W => GeAt x w w1.heap.size g a W) (x.size - 1) ⟨_, _, _, _, _, _, _, _, _, _, _, _, _, _, _, _, _, _, _, _, _, _, _, _, _, _, _, _, _, _, _, _, _, _, _, _, _, _, _, _, _, _, _, _, _, 2, w1.heap.size + 1 + 1, [], (1, 1), rfl, by omega, by omega, by omega, p5, p6, p7, hw1, by omega, ((hb1.alloc hw1 _).alloc (by simp; omega) _).alloc (by simp; omega) _, MarksAt.nil _ _, Lib.hid (GeB.start x fun i m hs => by omega)⟩ ?_
  obtain ⟨B5, hB5e⟩ : ∃ B5, w1.heap.size = B5 := ⟨_, rfl⟩
  rw [hB5e]
  clear p5 p6 p7 hb1 b1 hw1 hB5e
  intro gk a W hI J K hJ hK
  obtain ⟨u1, u2, u3, u4, u8, u9, u10, u11, u12, u13, u14, u15, u16, u17, u18, u19, u20, u21, u22, u23, u24, u25, u26, u27, u28, u29, u30, u31, u32, u33, u34, u35, u36, u37, u38, u39, u40, u41, u42, u43, u44, u45, u46, u47, u48, n, B7, Ds, s, rfl, hn, hn2, hn61, v5, v6, v7, hB5, hB7, hB, hM, HG⟩ := hI
  have c5 := v5.cell
  have c6 := v6.cell
  have c7 := v7.cell
  have hbz := hB.size
  have l5 := v5.lt
  have l6 := v6.lt
  have l7 := v7.lt
  by_cases hp : n ≤ x.size
  · obtain ⟨g, rfl⟩ : ∃ g, gk = g + 1 := ⟨gk - 1, by have := hn hp; omega⟩
    have hng := hn hp
    have hpi : (n : Int) ≤ (x.size : Int) := by omega
    gi_wp2_with (refine ⟨trivial, ?_⟩; gi_at_call 106; refine (factorsIn_in Fence.wide _ trivial rfl _ _ _).mono ?_; rintro e w2 ⟨rfl, rfl⟩)
    have q2 : Boxed ((W.alloc (.cells #[.string x] 9)).alloc (.cells #[.int .i64 (n : Int)] 2)) W.heap.size 9 (.string x) := (Boxed.new W _ _).alloc _
    have q1 : Boxed ((W.alloc (.cells #[.string x] 9)).alloc (.cells #[.int .i64 (n : Int)] 2)) (W.heap.size + 1) 2 (.int .i64 (n : Int)) := by
      have := Boxed.new (W.alloc (.cells #[.string x] 9)) 2 (.int .i64 (n : Int))
      rwa [World.size_alloc] at this
    have d5 := (v5.alloc (.cells #[.string x] 9)).alloc (.cells #[.int .i64 (n : Int)] 2)
    have d6 := (v6.alloc (.cells #[.string x] 9)).alloc (.cells #[.int .i64 (n : Int)] 2)
    have d7 := (v7.alloc (.cells #[.string x] 9)).alloc (.cells #[.int .i64 (n : Int)] 2)
    have dB := (hB.alloc hbz (.cells #[.string x] 9)).alloc (by simp; omega) (.cells #[.int .i64 (n : Int)] 2)
    have hs0 : ((W.alloc (.cells #[.string x] 9)).alloc (.cells #[.int .i64 (n : Int)] 2)).heap.size = W.heap.size + 2 := by simp
    have dM : MarksAt ((W.alloc (.cells #[.string x] 9)).alloc (.cells #[.int .i64 (n : Int)] 2)) w.heap.size Ds := hM.keep fun b o hb _ => by
      have hlt := (Array.getElem?_eq_some_iff.1 hb).1
      rw [Below.heap_alloc _ _ b (by simp; omega), Below.heap_alloc _ _ b hlt]
      exact hb
    have hMl := hM.lt
    generalize hW0 : (W.alloc (.cells #[.string x] 9)).alloc (.cells #[.int .i64 (n : Int)] 2) = W0 at q1 q2 d5 d6 d7 dB hs0 dM ⊢
    clear hW0 v5 v6 v7 hB hM c5 c6 c7
    refine wpIn_rangeFunc_ownG rfl (by decide) (gf := 155) (lb := #[.pointer (some ⟨W.heap.size + 1, 0, none⟩), .pointer (some ⟨W.heap.size, 0, none⟩)]) rfl trivial (enters_of Try.func155 (by kernel_rfl) rfl)
      (factorsF_stops Fence.wide 3 trivial rfl (by decide) (W.heap.size + 1) W.heap.size w.heap.size x n hx (by omega) W0 q1 q2) kpF_t (kpF_b (by omega) (by omega) (by omega)) (Below.refl _ _) (fun _ => rfl)
      (fun pre W' => ∃ s : Nat × Nat, Boxed W' B5 2 (.int .i64 (s.1 : Int)) ∧ Boxed W' (B5 + 1) 2 (.int .i64 (s.2 : Int)) ∧ Boxed W' B7 2 (.int .i64 (n : Int)) ∧ (Boxed W' (W.heap.size + 1) 2 (.int .i64 (n : Int)) ∧ Boxed W' W.heap.size 9 (.string x)) ∧ Below w.heap.size w W' ∧ MarksAt W' w.heap.size Ds ∧ Hid (GeB x (fun i m => (2 ≤ m ∧ m < n) ∨ (m = n ∧ ∃ k ∈ pre, k.val = i)) s))
      (fun c pre W' => False)
      (fun t A B row hs hg hr => by
        obtain ⟨s, h1, h2, h4, ⟨h5, h6⟩, h7, h8, h9⟩ := hs
        have hne : ∀ b, b < W0.heap.size → some b ≠ row := fun b hb e => by have := (hr _ e.symm).1; omega
        exact ⟨s, h1.kept hg (hne _ (by omega)), h2.kept hg (hne _ (by omega)), h4.kept hg (hne _ (by omega)), ⟨h5.kept hg (hne _ (by omega)), h6.kept hg (hne _ (by omega))⟩, h7.grown hg (by have := h7.size; omega) (fun k e => by have := (hr _ e).1; omega),
          ⟨h8.1, fun D hD => ⟨(h8.2 D hD).1, (hg.block D (h8.lt D hD) (hne D (by have := hMl D hD; omega))).trans (h8.2 D hD).2⟩⟩, h9⟩)
      (fun c s A B row hs hg hr => hs)
      ⟨s, d5, d6, d7, ⟨q1, q2⟩, dB, dM, Lib.hid (HG.out.mono fun i m hs h1 h2 => by
        rcases hs with hs | ⟨_, k, hk, _⟩
        · exact hs
        · cases hk)⟩
      (fun i => { tmps := #[.string x, u1, u2, u3, u4, .pointer (some ⟨B5, 0, none⟩), .pointer (some ⟨B5 + 1, 0, none⟩), .pointer (some ⟨B7, 0, none⟩), u8, .string (x.extract i.val (i.val + n)), u10, u11, u12, u13, u14, u15, u16, .int .i64 (n : Int), .string x, .int .i64 (x.size : Int), .bool true, u21, u22, .string x, .int .i64 (n : Int), .func (.func 155) #[] #[.pointer (some ⟨W.heap.size + 1, 0, none⟩), .pointer (some ⟨W.heap.size, 0, none⟩)], .int .i64 (i.val : Int), .string (x.extract i.val (i.val + n)), u28, u29, u30, u31, u32, u33, u34, u35, u36, u37, u38, u39, u40, u41, u42, u43, u44, u45, u46, u47, u48], defers := [] }) ?assign ?body ?done ?stop
    case assign =>
      intro l i W K hK
      gi_wp2
      exact hK
    case body =>
      rintro l pre i W' ⟨s, h5, h6, h7, ⟨r1, r2⟩, hB', hM', HS⟩ hlt
      have k5 := h5.cell
      have k6 := h6.cell
      have k7 := h7.cell
      have m5 := h5.lt
      have m6 := h6.lt
      have m7 := h7.lt
      have mr1 := r1.lt
      have mr2 := r2.lt
      have hin : i.val + n ≤ x.size := by have := i.isLt; omega
      have z1 : (x.extract i.val (i.val + n)).size = n := by simp; omega
      have CP : Hid (∀ w, Calls Try.prog 107 #[.string (x.extract i.val (i.val + n))] w fun e w' => e = .returned (.int .i64 (lpf x i.val n : Int)) ∧ Below w.heap.size w w') := Lib.hid fun w => leastPeriod_any (x.extract i.val (i.val + n)) w (by omega) (by omega)
      have HS2 : Hid (GeB x (fun i' m => (2 ≤ m ∧ m < n) ∨ (m = n ∧ ∃ k ∈ pre ++ [i], k.val = i')) (geStep s n (lpf x i.val n))) := Lib.hid ((HS.out.step (by omega) hin).mono fun i' m hs h1 h2 => by
        rcases hs with hs | ⟨hm, k, hk, hki⟩
        · exact .inl (.inl hs)
        · rcases List.mem_append.1 hk with hk | hk
          · exact .inl (.inr ⟨hm, k, hk, hki⟩)
          · exact .inr ⟨by rw [← hki, List.mem_singleton.1 hk], hm⟩)
      have hb1 := HS.out.2.2.1
      have hb2 := HS.out.2.2.2.1
      have hb5 := lpf_bd (x := x) (i := i.val) (m := n) (by omega) hin
      obtain ⟨s1, s2⟩ := s
      dsimp only at *
      generalize lpf x i.val n = q at *
      generalize x.extract i.val (i.val + n) = y at *
      obtain ⟨P, hP⟩ : ∃ P, n * s2 = P := ⟨_, rfl⟩
      obtain ⟨Q, hQ⟩ : ∃ Q, s1 * q = Q := ⟨_, rfl⟩
      have hPi : (n : Int) * (s2 : Int) = (P : Int) := by rw [← hP, Int.natCast_mul]
      have hQi : (s1 : Int) * (q : Int) = (Q : Int) := by rw [← hQ, Int.natCast_mul]
      have hPl : P ≤ 3600 := by rw [← hP]; exact Nat.mul_le_mul (show n ≤ 60 by omega) (show s2 ≤ 60 by omega)
      have hQl : Q ≤ 3600 := by rw [← hQ]; exact Nat.mul_le_mul (show s1 ≤ 60 by omega) (show q ≤ 60 by omega)
      have hp2 : (0 : Int) ≤ (n : Int) * (s2 : Int) := by omega
      have hp3 : (0 : Int) ≤ (s1 : Int) * (q : Int) := by omega
      have HPQ : Hid (geStep (s1, s2) n q = if Q < P then (n, q) else (s1, s2)) := Lib.hid (by unfold geStep; rw [← hP, ← hQ])
      clear hP hQ
      by_cases hgt : Q < P
      · have HS3 := HS2
        rw [HPQ.out, if_pos hgt] at HS3
        have hgi : (Q : Int) < (P : Int) := by omega
        gi_wp2_with (refine ⟨trivial, ?_⟩; gi_at_call 107; refine (CallsIn.inRound l (callsIn_wide.2 (CP.out _))).mono ?_; rintro e w3 ⟨rfl, b3⟩; have j5 : Boxed w3 B5 2 (.int .i64 (s1 : Int)) := (b3.block _ m5).trans h5; have j6 : Boxed w3 (B5 + 1) 2 (.int .i64 (s2 : Int)) := (b3.block _ m6).trans h6; have j7 : Boxed w3 B7 2 (.int .i64 (n : Int)) := (b3.block _ m7).trans h7; have e5 := j5.cell; have e6 := j6.cell; have e7 := j7.cell; have f5 := j5.frozen; have f6 := j6.frozen)
        have kb : ∀ b, b < W'.heap.size → w3.heap[b]? = W'.heap[b]? := fun b hb => b3.block b hb
        have hbs := hB'.size
        have h3s := b3.size
        have hM3 := hM'.old (W' := w3) kb
        obtain ⟨t1, t2, t3, t4, t5⟩ := two_boxes (x := .int .i64 (n : Int)) (x' := .int .i64 (q : Int)) j5 j6 (hB'.then b3) hB5
        exact ⟨KeepsFrom.trans ⟨b3.size, fun k o _ hk _ => (kb k (Array.getElem?_eq_some_iff.1 hk).1).trans hk⟩ (t4 _ (by omega)),
          ⟨((b3.mono hbs).setCell (p := ⟨B5, 0, none⟩) hB5 _).setCell (p := ⟨B5 + 1, 0, none⟩) (by show w.heap.size ≤ B5 + 1; omega) _, (t5 _ (by omega) (by omega) (by omega)).trans (kb _ mr1), (t5 _ (by omega) (by omega) (by omega)).trans (kb _ mr2)⟩,
          (n, q), t1, t2, (t5 _ (by omega) (by omega) (by omega)).trans j7, ⟨(t5 _ (by omega) (by omega) (by omega)).trans ((kb _ mr1).trans r1), (t5 _ (by omega) (by omega) (by omega)).trans ((kb _ mr2).trans r2)⟩, t3,
          ⟨hM3.1, fun D hD => ⟨(hM3.2 D hD).1, (t5 D (hM3.lt D hD) (fun e => hM3.not_box j5 (e ▸ hD)) (fun e => hM3.not_box j6 (e ▸ hD))).trans (hM3.2 D hD).2⟩⟩, HS3⟩
      · have HS3 := HS2
        rw [HPQ.out, if_neg hgt] at HS3
        have hgi : ¬ (Q : Int) < (P : Int) := by omega
        gi_wp2_with (refine ⟨trivial, ?_⟩; gi_at_call 107; refine (CallsIn.inRound l (callsIn_wide.2 (CP.out _))).mono ?_; rintro e w3 ⟨rfl, b3⟩; have j5 : Boxed w3 B5 2 (.int .i64 (s1 : Int)) := (b3.block _ m5).trans h5; have j6 : Boxed w3 (B5 + 1) 2 (.int .i64 (s2 : Int)) := (b3.block _ m6).trans h6; have j7 : Boxed w3 B7 2 (.int .i64 (n : Int)) := (b3.block _ m7).trans h7; have e5 := j5.cell; have e6 := j6.cell; have e7 := j7.cell)
        have kb : ∀ b, b < W'.heap.size → w3.heap[b]? = W'.heap[b]? := fun b hb => b3.block b hb
        have hbs := hB'.size
        exact ⟨⟨b3.size, fun k o _ hk _ => (kb k (Array.getElem?_eq_some_iff.1 hk).1).trans hk⟩, ⟨b3.mono hbs, kb _ mr1, kb _ mr2⟩, (s1, s2), j5, j6, j7, ⟨(kb _ mr1).trans r1, (kb _ mr2).trans r2⟩, hB'.then b3, hM'.old kb, HS3⟩
    case done =>
      rintro D ys W' hD hys ⟨s, h5, h6, h7, ⟨r1, r2⟩, hB', hM', HS⟩ hKD
      have k7 := h7.cell
      have hbs := hB'.size
      have m5 := h5.lt
      have m6 := h6.lt
      have m7 := h7.lt
      have HN : Hid (GeB x (fun i m => 2 ≤ m ∧ m < n + 1) s) := Lib.hid (HS.out.mono fun i m hs h1 h2 => by
        by_cases e : m = n
        · refine .inr ⟨e, ?_⟩
          have h10 : i ∈ ys.map Fin.val := by rw [hys]; exact List.mem_range.2 (by omega)
          obtain ⟨q, hq1, hq2⟩ := List.mem_map.1 h10
          exact ⟨q, hq1, hq2⟩
        · exact .inl ⟨hs.1, by omega⟩)
      gi_wp2
      refine Handed.intro g (by omega) (hJ _ _ _ ⟨_, _, _, _, _, _, _, _, _, _, _, _, _, _, _, _, _, _, _, _, _, _, _, _, _, _, _, _, _, _, _, _, _, _, _, _, _, _, _, _, _, _, _, _, _, n + 1, W'.heap.size, D :: Ds, s, rfl, fun _ => by omega, by omega, by omega, h5.alloc _, h6.alloc _, ?_, hB5, by omega, hB'.alloc hbs _, ?_, HN⟩)
      · rw [show ((n + 1 : Nat) : Int) = (n : Int) + 1 by omega]
        exact Boxed.new W' _ _
      · refine MarksAt.old (W := W') (MarksAt.cons hM' (by omega) hKD fun hm => ?_) fun b hb => Below.heap_alloc _ _ b hb
        have := hMl D hm
        omega
    case stop =>
      rintro D c pre W' _ _ hx' _
      exact hx'.elim
  · have hpi : ¬ (n : Int) ≤ (x.size : Int) := by omega
    have HA : Hid (GeB x allS s) := Lib.hid (GeB.ones (HG.out.mono fun i m hs h1 h2 => ⟨hs.2, by omega⟩))
    have hb1 := HA.out.2.2.1
    have hb2 := HA.out.2.2.2.1
    have hb3 := HA.out.1
    have hb4 := HA.out.2.1
    have HV := Lib.hid (GR.out s HA.out)
    obtain ⟨s1, s2⟩ := s
    dsimp only at *
    have hg0 := Nat.gcd_pos_of_pos_left s2 hb3
    have CG := Lib.hid fun w => commonDivisor_any s1 s2 w (by omega) (by omega)
    generalize Nat.gcd s1 s2 = d at *
    have hdz : ¬ (d : Int) = 0 := by omega
    gi_wp2_with (refine ⟨trivial, ?_⟩; gi_at_call 108; refine (callsIn_wide.2 (CG.out _)).mono ?_; rintro e w3 ⟨rfl, b3⟩; have j5 : Boxed w3 B5 2 (.int .i64 (s1 : Int)) := (b3.block _ l5).trans v5; have j6 : Boxed w3 (B5 + 1) 2 (.int .i64 (s2 : Int)) := (b3.block _ l6).trans v6; have e5 := j5.cell; have e6 := j6.cell)
    gi_quiet (fail)
    gi_wp2
    have hM3 := hM.old (W' := w3) fun b hb => b3.block b hb
    exact leaves_marks (fun W => Below w.heap.size w W)
      (fun W hW => ⟨_, results_tmp3 rfl _ _ _, by rw [HV.out, ← wrap_quo s1 d (by omega), ← wrap_quo s2 d (by omega)]; rfl, hW⟩)
      Ds _ w.heap.size hM3 (fun D W hD hW hK => hW.trans (belowK_b (w := w) (Nat.le_refl _) W D _ _ hD hK rfl rfl)) ((hB.then b3).drewN _)

set_option maxRecDepth 100000 in
theorem impl_GreatestExponent (x : ByteArray) (w : World) (sx : x.size ≤ maxLen) :
    Calls Try.prog 26 #[.string x] w fun e w' => e = .returned (.tuple #[.int .i64 (geR x).1, .int .i64 (geR x).2.1, .int .i64 (geR x).2.2]) ∧ Below w.heap.size w w' := by
  by_cases h : IsW x
  · by_cases h0 : x.size = 0
    · rw [geR_nil h h0]
      have hq := teq_nil h0
      have H := Lib.hid h
      clear h
      go_enter Try.func26, Try.ntmps26
      go_wp2_with fail
      refine (isWord_yes x _ H.out).mono ?_
      rintro e w1 ⟨rfl, b1⟩
      go_wp2_with fail
      go_ret3
      exact ⟨rfl, b1⟩
    · exact callsIn_wide.1 (impl_Ge_ok x _ w h h0 rfl)
  · rw [geR_bad h]
    have H := Lib.hid h
    clear h
    go_enter Try.func26, Try.ntmps26
    go_wp2_with fail
    refine (isWord_not x _ sx H.out).mono ?_
    rintro e w1 ⟨rfl, b1⟩
    go_wp2_with fail
    go_ret3
    exact ⟨rfl, b1⟩

end Go.Proofs.Ythjbdcoklgnnlab

/-! ### SfS -/
namespace Go.Proofs.Ythjbdcoklgnnlab
set_option linter.unusedVariables false
set_option linter.unusedSimpArgs false
open Go.RowKit

set_option maxRecDepth 100000 in
set_option maxHeartbeats 2000000 in
theorem l03Count_any (k m : Nat) (hk : k ≤ 3) (hk1 : 1 ≤ k) (hm : m ≤ 12) : ∀ (f : Nat) (x : ByteArray) (w : World), x.size + f = m →
    Calls Try.prog 114 #[.string x, .int .i64 (m : Int), .int .i64 (k : Int)] w fun e w' => e = .returned (.int .i64 ((dfs k f (bl x)).length : Int)) ∧ Below w.heap.size w w'
  | 0, x, w, hx => by
    have hxm : ((x.size : Int) == (m : Int)) = true := by rw [beq_iff_eq]; omega
    have hxm2 : (x.size : Int) = (m : Int) := by omega
    go_enter Try.func114, Try.ntmps114
    go_wp2
    go_ret
    exact ⟨rfl, Below.refl _ _⟩
  | f + 1, x, w, hx => by
    have hxm : ((x.size : Int) == (m : Int)) = false := by rw [beq_eq_false_iff_ne]; omega
    have hxm2 : ¬ (x.size : Int) = (m : Int) := by omega
    have hl := Nat.le_trans (dfs_len k (f + 1) (bl x)) (pow_12 hk (show f + 1 ≤ 12 by omega))
    obtain ⟨R, hR⟩ : ∃ R, dfs k (f + 1) (bl x) = R := ⟨_, rfl⟩
    rw [hR] at hl ⊢
    have HR : Hid (kids (dfs k f) (bl x) 0 k = R) := Lib.hid (by rw [← hR, dfs])
    have IH := Lib.hid (l03Count_any k m hk hk1 hm f)
    have HX := Lib.hid hx
    have x60 : x.size ≤ 11 := by omega
    clear hR hx
    go_enter Try.func114, Try.ntmps114
    go_wp2_with fail
    go_loopg [7, 8] k (fun g s7 s8 wr => ∃ (c n : Nat), c + g = k ∧ s7 = .int .i64 (n : Int) ∧ s8 = .int .i64 (c : Int) ∧ Below w.heap.size w wr ∧ Hid (n + (kids (dfs k f) (bl x) c g).length = R.length))
    case atStart => exact ⟨0, 0, by omega, rfl, rfl, Below.refl _ _, Lib.hid (by rw [HR.out]; simp)⟩
    case round =>
      obtain ⟨c, n, hg, rfl, rfl, hB, HN⟩ := hrel
      by_cases hp : c < k
      · obtain ⟨g, rfl⟩ : ∃ g, gk = g + 1 := ⟨gk - 1, by omega⟩
        have hpi : (c : Int) < (k : Int) := by omega
        have hsz := size_lt1 x c
        have e1 := lt1_size c
        have LT := Lib.hid (show (⟨#[letB (c : Int)]⟩ : ByteArray) = lt1 c from rfl)
        have e4 : (lt1 c).size ≤ 1 := by omega
        have hsum : ∀ W, (Op.stringOp .add x (lt1 c)).run Try.prog W = .ok (.string (x ++ lt1 c)) W := fun W => run_string_add_sum W _ _ (by rw [lt1_size]; omega)
        have e2 : (x ++ lt1 c).size ≤ 60 := by omega
        have CS := fun w => l03First_end (x ++ lt1 c) ((x ++ lt1 c).size : Int) w (by omega) (by omega) rfl
        have CI := Lib.hid fun w => IH.out (x ++ lt1 c) w (by have := HX.out; omega)
        rw [bl_lt1] at CS CI
        have hnl : n ≤ 531441 := by have := HN.out; omega
        by_cases he : sa (bl x ++ [letB (c : Int)]) (x.size + 1) = 0
        · have he0 : decide (¬ sa (bl x ++ [letB (c : Int)]) (x ++ lt1 c).size = 0) = false := by rw [hsz, he]; rfl
          rw [he0] at CS
          have CS2 := Lib.hid CS
          obtain ⟨d, hd⟩ : ∃ d, (dfs k f (bl x ++ [letB (c : Int)])).length = d := ⟨_, rfl⟩
          rw [hd] at CI
          have HN2 : Hid (n + d + (kids (dfs k f) (bl x) (c + 1) g).length = R.length) := Lib.hid (by
            rw [← HN.out, kids_hit he, List.length_append, hd]; omega)
          have hdl : n + d ≤ 531441 := by have := HN2.out; omega
          clear he he0 CS hsz e1 hd
          generalize lt1 c = t at *
          generalize x ++ t = y at *
          go_wp2_with fail
          refine (l01Letter_any c _ (by omega) (by omega)).mono ?_
          rintro e w4 ⟨rfl, b4⟩
          rw [LT.out]
          go_simp
          go_wp2_with fail
          refine (CS2.out _).mono ?_
          rintro e w5 ⟨a, b, rfl, b5⟩
          go_simp
          go_wp2_with fail
          refine (CI.out _).mono ?_
          rintro e w6 ⟨rfl, b6⟩
          have hB2 := ((hB.then b4).then b5).then b6
          clear hB b4 b5 b6
          go_simp
          go_wp2_with fail
          go_roundg g
          case measure => omega
          case rel => exact ⟨c + 1, n + d, by omega, by go_num, by go_num, hB2, HN2⟩
        · have he0 : decide (¬ sa (bl x ++ [letB (c : Int)]) (x ++ lt1 c).size = 0) = true := by rw [hsz]; exact decide_eq_true he
          rw [he0] at CS
          have CS2 := Lib.hid CS
          have HN2 : Hid (n + (kids (dfs k f) (bl x) (c + 1) g).length = R.length) := Lib.hid (by rw [← HN.out, kids_miss he])
          clear he he0 CS hsz e1 CI
          generalize lt1 c = t at *
          generalize x ++ t = y at *
          go_wp2_with fail
          refine (l01Letter_any c _ (by omega) (by omega)).mono ?_
          rintro e w4 ⟨rfl, b4⟩
          rw [LT.out]
          go_simp
          go_wp2_with fail
          refine (CS2.out _).mono ?_
          rintro e w5 ⟨a, b, rfl, b5⟩
          have hB2 := (hB.then b4).then b5
          clear hB b4 b5
          go_simp
          go_wp2_with fail
          go_roundg g
          case measure => omega
          case rel => exact ⟨c + 1, n, by omega, by go_num, by go_num, hB2, HN2⟩
      · have hpi : ¬ (c : Int) < (k : Int) := by omega
        obtain rfl : gk = 0 := by omega
        have HV : Hid (n = R.length) := Lib.hid (by rw [← HN.out]; rfl)
        go_wp2
        go_ret
        rw [← HV.out]
        exact ⟨rfl, hB⟩

/-- What a search for the first word comes to. -/
def FoundP (D : List (List UInt8)) (w : World) (e : Ending) (w' : World) : Prop := ∃ (s : ByteArray) (ok : Bool), e = .returned (.tuple #[.string s, .bool ok]) ∧ Hid ((ok = true ∧ D.head? = some (bl s)) ∨ (ok = false ∧ s = ⟨#[]⟩ ∧ D = [])) ∧ Below w.heap.size w w'

set_option maxRecDepth 100000 in
set_option maxHeartbeats 2000000 in
theorem l03Find_any (k m : Nat) (hk : k ≤ 5) (hk1 : 1 ≤ k) (hm : m ≤ 30) : ∀ (f : Nat) (x : ByteArray) (w : World), x.size + f = m →
    Calls Try.prog 113 #[.string x, .int .i64 (m : Int), .int .i64 (k : Int)] w (FoundP (dfs k f (bl x)) w)
  | 0, x, w, hx => by
    have hxm : ((x.size : Int) == (m : Int)) = true := by rw [beq_iff_eq]; omega
    have hxm2 : (x.size : Int) = (m : Int) := by omega
    go_enter Try.func113, Try.ntmps113
    go_wp2
    go_ret2
    exact ⟨_, _, rfl, Lib.hid (.inl ⟨rfl, rfl⟩), Below.refl _ _⟩
  | f + 1, x, w, hx => by
    have hxm : ((x.size : Int) == (m : Int)) = false := by rw [beq_eq_false_iff_ne]; omega
    have hxm2 : ¬ (x.size : Int) = (m : Int) := by omega
    obtain ⟨R, hR⟩ : ∃ R, dfs k (f + 1) (bl x) = R := ⟨_, rfl⟩
    rw [hR]
    have HR : Hid (kids (dfs k f) (bl x) 0 k = R) := Lib.hid (by rw [← hR, dfs])
    have IH := Lib.hid (l03Find_any k m hk hk1 hm f)
    have HX := Lib.hid hx
    have x60 : x.size ≤ 29 := by omega
    clear hR hx
    go_enter Try.func113, Try.ntmps113
    go_wp2_with fail
    go_loopg [8] k (fun g s8 wr => ∃ c : Nat, c + g = k ∧ s8 = .int .i64 (c : Int) ∧ Below w.heap.size w wr ∧ Hid (kids (dfs k f) (bl x) c g = R))
    case atStart => exact ⟨0, by omega, rfl, Below.refl _ _, HR⟩
    case round =>
      obtain ⟨c, hg, rfl, hB, HN⟩ := hrel
      clear HR
      by_cases hp : c < k
      · obtain ⟨g, rfl⟩ : ∃ g, gk = g + 1 := ⟨gk - 1, by omega⟩
        have hpi : (c : Int) < (k : Int) := by omega
        have hsz := size_lt1 x c
        have e1 := lt1_size c
        have LT := Lib.hid (show (⟨#[letB (c : Int)]⟩ : ByteArray) = lt1 c from rfl)
        have e4 : (lt1 c).size ≤ 1 := by omega
        have hsum : ∀ W, (Op.stringOp .add x (lt1 c)).run Try.prog W = .ok (.string (x ++ lt1 c)) W := fun W => run_string_add_sum W _ _ (by rw [lt1_size]; omega)
        have e2 : (x ++ lt1 c).size ≤ 60 := by omega
        have CS := fun w => l03First_end (x ++ lt1 c) ((x ++ lt1 c).size : Int) w (by omega) (by omega) rfl
        have CI := Lib.hid fun w => IH.out (x ++ lt1 c) w (by have := HX.out; omega)
        rw [bl_lt1] at CS CI
        by_cases he : sa (bl x ++ [letB (c : Int)]) (x.size + 1) = 0
        · have he0 : decide (¬ sa (bl x ++ [letB (c : Int)]) (x ++ lt1 c).size = 0) = false := by rw [hsz, he]; rfl
          rw [he0] at CS
          have CS2 := Lib.hid CS
          have HK : Hid (dfs k f (bl x ++ [letB (c : Int)]) ++ kids (dfs k f) (bl x) (c + 1) g = R) := Lib.hid (by rw [← HN.out, kids_hit he])
          clear he he0 CS hsz e1
          generalize dfs k f (bl x ++ [letB (c : Int)]) = D at *
          generalize lt1 c = t at *
          generalize x ++ t = y at *
          go_wp2_with fail
          refine (l01Letter_any c _ (by omega) (by omega)).mono ?_
          rintro e w4 ⟨rfl, b4⟩
          rw [LT.out]
          go_simp
          go_wp2_with fail
          refine (CS2.out _).mono ?_
          rintro e w5 ⟨a, b, rfl, b5⟩
          go_simp
          go_wp2_with fail
          refine (CI.out _).mono ?_
          rintro e w6 ⟨s, ok, rfl, HF, b6⟩
          have hB2 := ((hB.then b4).then b5).then b6
          clear hB b4 b5 b6
          cases ok with
          | true =>
            have HV : Hid (R.head? = some (bl s)) := Lib.hid (by
              rcases HF.out with ⟨_, h⟩ | ⟨h, _⟩
              · rw [← HK.out, List.head?_append, h]; rfl
              · cases h)
            go_simp
            go_wp2_with fail
            go_ret2
            exact ⟨_, _, rfl, Lib.hid (.inl ⟨rfl, HV.out⟩), hB2⟩
          | false =>
            have HV : Hid (kids (dfs k f) (bl x) (c + 1) g = R) := Lib.hid (by
              rcases HF.out with ⟨h, _⟩ | ⟨_, _, h⟩
              · cases h
              · rw [← HK.out, h]; rfl)
            go_simp
            go_wp2_with fail
            go_roundg g
            case measure => omega
            case rel => exact ⟨c + 1, by omega, by go_num, hB2, HV⟩
        · have he0 : decide (¬ sa (bl x ++ [letB (c : Int)]) (x ++ lt1 c).size = 0) = true := by rw [hsz]; exact decide_eq_true he
          rw [he0] at CS
          have CS2 := Lib.hid CS
          have HN2 : Hid (kids (dfs k f) (bl x) (c + 1) g = R) := Lib.hid (by rw [← HN.out, kids_miss he])
          clear he he0 CS hsz e1 CI
          generalize lt1 c = t at *
          generalize x ++ t = y at *
          go_wp2_with fail
          refine (l01Letter_any c _ (by omega) (by omega)).mono ?_
          rintro e w4 ⟨rfl, b4⟩
          rw [LT.out]
          go_simp
          go_wp2_with fail
          refine (CS2.out _).mono ?_
          rintro e w5 ⟨a, b, rfl, b5⟩
          have hB2 := (hB.then b4).then b5
          clear hB b4 b5
          go_simp
          go_wp2_with fail
          go_roundg g
          case measure => omega
          case rel => exact ⟨c + 1, by omega, by go_num, hB2, HN2⟩
      · have hpi : ¬ (c : Int) < (k : Int) := by omega
        obtain rfl : gk = 0 := by omega
        have HV : Hid (R = []) := Lib.hid (by rw [← HN.out]; rfl)
        go_wp2
        go_ret2
        exact ⟨_, _, rfl, Lib.hid (.inr ⟨rfl, rfl, HV.out⟩), hB⟩

set_option maxRecDepth 100000 in
theorem spec_CountSquareFree (m k : Int) (w : World) (wm : (Lit.int .i64 m).wf = true) (wk : (Lit.int .i64 k).wf = true) :
    Calls Try.prog 34 #[.int .i64 m, .int .i64 k] w fun e w' => e = .returned (.tuple #[.int .i64 (countSfR m k).1, .int .i64 (countSfR m k).2]) ∧ Below w.heap.size w w' := by
  by_cases h : m < 0 ∨ 12 < m ∨ k < 1 ∨ 3 < k
  · rw [countSfR_out h]
    by_cases hm : 0 ≤ m ∧ m ≤ 12
    · have HK : Hid (¬ (1 ≤ k ∧ k ≤ 3)) := Lib.hid (by omega)
      have HM := Lib.hid hm
      clear h hm
      go_enter Try.func34, Try.ntmps34
      go_wp2_with fail
      refine (l01In_yes _ _ _ _ HM.out.1 HM.out.2).mono ?_
      rintro e w1 ⟨rfl, b1⟩
      go_simp
      go_wp2_with fail
      refine (l01In_no _ _ _ _ HK.out).mono ?_
      rintro e w2 ⟨rfl, b2⟩
      go_simp
      go_wp2_with fail
      go_ret2
      exact ⟨rfl, b1.then b2⟩
    · have HM := Lib.hid hm
      clear h hm
      go_enter Try.func34, Try.ntmps34
      go_wp2_with fail
      refine (l01In_no _ _ _ _ HM.out).mono ?_
      rintro e w1 ⟨rfl, b1⟩
      go_simp
      go_wp2_with fail
      go_ret2
      exact ⟨rfl, b1⟩
  · obtain ⟨a, rfl⟩ := Int.eq_ofNat_of_zero_le (show 0 ≤ m by omega)
    obtain ⟨b, rfl⟩ := Int.eq_ofNat_of_zero_le (show 0 ≤ k by omega)
    have h1 : a ≤ 12 := by omega
    have h2 : 1 ≤ b := by omega
    have h3 : b ≤ 3 := by omega
    rw [countSfR_ok h1 h2 h3]
    have CP := Lib.hid fun w => l03Count_any b a h3 h2 h1 a ⟨#[]⟩ w (Nat.zero_add a)
    clear h
    have hb : (bl (⟨#[]⟩ : ByteArray)) = [] := rfl
    rw [hb] at CP
    clear hb
    generalize (dfs b a []).length = n at *
    go_enter Try.func34, Try.ntmps34
    go_wp2_with fail
    refine (l01In_yes _ _ _ _ (by omega) (by omega)).mono ?_
    rintro e w1 ⟨rfl, b1⟩
    go_simp
    go_wp2_with fail
    refine (l01In_yes _ _ _ _ (by omega) (by omega)).mono ?_
    rintro e w2 ⟨rfl, b2⟩
    go_simp
    go_wp2_with fail
    refine (CP.out _).mono ?_
    rintro e w3 ⟨rfl, b3⟩
    go_wp2_with fail
    go_ret2
    exact ⟨rfl, (b1.then b2).then b3⟩

set_option maxRecDepth 100000 in
theorem spec_FirstSquareFree (m k : Int) (w : World) (wm : (Lit.int .i64 m).wf = true) (wk : (Lit.int .i64 k).wf = true) :
    Calls Try.prog 31 #[.int .i64 m, .int .i64 k] w fun e w' => e = .returned (.tuple #[.string (firstSfR m k).1, .int .i64 (firstSfR m k).2]) ∧ Below w.heap.size w w' := by
  by_cases h : m < 0 ∨ 30 < m ∨ k < 1 ∨ 5 < k
  · rw [firstSfR_out h]
    by_cases hm : 0 ≤ m ∧ m ≤ 30
    · have HK : Hid (¬ (1 ≤ k ∧ k ≤ 5)) := Lib.hid (by omega)
      have HM := Lib.hid hm
      clear h hm
      go_enter Try.func31, Try.ntmps31
      go_wp2_with fail
      refine (l01In_yes _ _ _ _ HM.out.1 HM.out.2).mono ?_
      rintro e w1 ⟨rfl, b1⟩
      go_simp
      go_wp2_with fail
      refine (l01In_no _ _ _ _ HK.out).mono ?_
      rintro e w2 ⟨rfl, b2⟩
      go_simp
      go_wp2_with fail
      go_ret2
      exact ⟨rfl, b1.then b2⟩
    · have HM := Lib.hid hm
      clear h hm
      go_enter Try.func31, Try.ntmps31
      go_wp2_with fail
      refine (l01In_no _ _ _ _ HM.out).mono ?_
      rintro e w1 ⟨rfl, b1⟩
      go_simp
      go_wp2_with fail
      go_ret2
      exact ⟨rfl, b1⟩
  · obtain ⟨a, rfl⟩ := Int.eq_ofNat_of_zero_le (show 0 ≤ m by omega)
    obtain ⟨b, rfl⟩ := Int.eq_ofNat_of_zero_le (show 0 ≤ k by omega)
    have h1 : a ≤ 30 := by omega
    have h2 : 1 ≤ b := by omega
    have h3 : b ≤ 5 := by omega
    have CP := Lib.hid fun w => l03Find_any b a h3 h2 h1 a ⟨#[]⟩ w (Nat.zero_add a)
    have HS := Lib.hid fun s (hs : (dfs b a []).head? = some s) => firstSfR_some h1 h2 h3 hs
    have HN := Lib.hid fun (hs : (dfs b a []).head? = none) => firstSfR_none h1 h2 h3 hs
    clear h
    have hb : (bl (⟨#[]⟩ : ByteArray)) = [] := rfl
    rw [hb] at CP
    clear hb
    generalize firstSfR (a : Int) (b : Int) = R at *
    generalize dfs b a [] = D at *
    go_enter Try.func31, Try.ntmps31
    go_wp2_with fail
    refine (l01In_yes _ _ _ _ (by omega) (by omega)).mono ?_
    rintro e w1 ⟨rfl, b1⟩
    go_simp
    go_wp2_with fail
    refine (l01In_yes _ _ _ _ (by omega) (by omega)).mono ?_
    rintro e w2 ⟨rfl, b2⟩
    go_simp
    go_wp2_with fail
    refine (CP.out _).mono ?_
    rintro e w3 ⟨s, ok, rfl, HF, b3⟩
    have B := (b1.then b2).then b3
    cases ok with
    | true =>
      have HV : Hid (R = (s, 0)) := Lib.hid (by
        rcases HF.out with ⟨_, h⟩ | ⟨h, _⟩
        · exact HS.out _ h
        · cases h)
      go_simp
      go_wp2_with fail
      go_ret2
      exact ⟨by rw [HV.out]; rfl, B⟩
    | false =>
      have HV : Hid (R = (⟨#[]⟩, 4)) := Lib.hid (by
        rcases HF.out with ⟨h, _⟩ | ⟨_, _, h⟩
        · cases h
        · exact HN.out (by rw [h]; rfl))
      go_simp
      go_wp2_with fail
      go_ret2
      exact ⟨by rw [HV.out]; rfl, B⟩

end Go.Proofs.Ythjbdcoklgnnlab
