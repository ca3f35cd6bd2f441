/- Words of lists of numbers: the model and the program. -/
import Derived.Test.YtlaefpmfbnldfabWordOf
import Derived.Test.YtlaefpmfbnldfabLetter
namespace Go.Proofs.Ytlaefpmfbnldfab
set_option linter.unusedVariables false
set_option linter.unusedSimpArgs false
open Go.RowKit

set_option maxRecDepth 100000 in
theorem l01In_yes' (n lo hi : Int) (w : World) (h1 : lo ≤ n) (h2 : n ≤ hi) :
    Calls Try.prog 100 #[.int .i64 n, .int .i64 lo, .int .i64 hi] w fun e w' => e = .returned (.bool true) ∧ w = w' := by
  go_enter Try.func100, Try.ntmps100
  go_wp2
  go_ret
  exact ⟨ret_bool (by simp [*]), rfl⟩

set_option maxRecDepth 100000 in
theorem l01In_no' (n lo hi : Int) (w : World) (h : ¬ (lo ≤ n ∧ n ≤ hi)) :
    Calls Try.prog 100 #[.int .i64 n, .int .i64 lo, .int .i64 hi] w fun e w' => e = .returned (.bool false) ∧ w = w' := by
  by_cases h1 : lo ≤ n
  · have h2 : hi < n := by omega
    clear h
    go_enter Try.func100, Try.ntmps100
    go_wp2
    go_ret
    exact ⟨ret_bool (by simp; omega), rfl⟩
  · have h2 : n < lo := by omega
    clear h h1
    go_enter Try.func100, Try.ntmps100
    go_wp2
    go_ret
    exact ⟨rfl, rfl⟩

set_option maxRecDepth 100000 in
theorem l01Ls_yes (B : Nat) (v : Value) (L : List Int) (w : World) (h : OwnI w B v L) (hl : L.length ≤ 1048576) (hok : okN L) :
    Calls Try.prog 137 #[v] w fun e w' => e = .returned (.bool true) ∧ Below w.heap.size w w' := by
  by_cases h0 : L = []
  · subst h0
    obtain ⟨a1, c1, rfl⟩ := h.empty
    clear h hok
    go_enter Try.func137, Try.ntmps137
    go_wp2
    refine wp_loop_rounds 1 ?_
    rw [rounds_succ]
    go_wp2
    go_ret
    exact ⟨rfl, Below.refl _ _⟩
  · have hn : 0 < L.length := List.length_pos_iff.2 h0
    obtain ⟨g, c, rfl, _, hg, hc, hm, cell, _⟩ := h.row hn
    have C := Lib.hid cell
    have OK := Lib.hid hok
    clear h cell h0 hok
    go_enter Try.func137, Try.ntmps137
    go_wp2
    go_loopw [3] (fun i wr => ∃ k : Nat, k ≤ L.length ∧ i = .int .i64 k ∧ wr = w) (fun i _ => L.length - (intOf i).toNat)
    case atStart => exact ⟨0, Nat.zero_le _, rfl, rfl⟩
    case round =>
      obtain ⟨k, hk, rfl, rfl⟩ := hrel
      by_cases hp : k < L.length
      · have k1 := C.out k hp
        have hok := OK.out k hp
        generalize L[k]'hp = z at k1 hok
        obtain ⟨o1, o2⟩ := hok
        have hpc : k < c := by omega
        go_wp2_with fail
        refine (l01In_yes' z 0 4 _ o1 o2).mono ?_
        rintro e w2 ⟨rfl, rfl⟩
        go_wp2_with fail
        go_roundw
        case rel => exact ⟨k + 1, by omega, by go_num, by first | rfl | trivial⟩
        case measure => simp [intOf]; omega
      · go_wp2
        go_ret
        exact ⟨rfl, Below.refl _ _⟩

set_option maxRecDepth 100000 in
theorem l01Ls_no (B : Nat) (v : Value) (L : List Int) (w : World) (h : OwnI w B v L) (hl : L.length ≤ 1048576) (hok : ¬ okN L) :
    Calls Try.prog 137 #[v] w fun e w' => e = .returned (.bool false) ∧ Below w.heap.size w w' := by
  have h0 : L ≠ [] := fun e => by subst e; exact hok okN_nil
  have hn : 0 < L.length := List.length_pos_iff.2 h0
  obtain ⟨g, c, rfl, _, hg, hc, hm, cell, _⟩ := h.row hn
  have C := Lib.hid cell
  have OK := Lib.hid hok
  clear h cell h0 hok
  go_enter Try.func137, Try.ntmps137
  go_wp2
  go_loopw [3] (fun i wr => ∃ k : Nat, k ≤ L.length ∧ i = .int .i64 k ∧ wr = w ∧ okTo L k) (fun i _ => L.length - (intOf i).toNat)
  case atStart => exact ⟨0, Nat.zero_le _, rfl, rfl, okTo.zero L⟩
  case round =>
    obtain ⟨k, hk, rfl, rfl, hu⟩ := hrel
    have hp : k < L.length := Nat.lt_of_not_le fun hp => OK.out (hu.whole hp)
    have HU := Lib.hid hu
    clear hu
    have k1 := C.out k hp
    have hpc : k < c := by omega
    by_cases hin : 0 ≤ L[k]'hp ∧ L[k]'hp ≤ 4
    · have HS := Lib.hid (HU.out.succ hp hin.1 hin.2)
      have HC := Lib.hid k1
      clear k1
      generalize hz : L[k]'hp = z at *
      clear hz
      obtain ⟨o1, o2⟩ := hin
      have k1 := HC.out
      go_wp2_with fail
      refine (l01In_yes' z 0 4 _ o1 o2).mono ?_
      rintro e w2 ⟨rfl, rfl⟩
      go_wp2_with fail
      go_roundw
      case rel => exact ⟨k + 1, by omega, by go_num, by first | rfl | trivial, HS.out⟩
      case measure => simp [intOf]; omega
    · generalize L[k]'hp = z at *
      have HIN := Lib.hid hin
      clear hin
      go_wp2_with fail
      refine (l01In_no' z 0 4 _ HIN.out).mono ?_
      rintro e w2 ⟨rfl, rfl⟩
      go_wp2_with fail
      go_ret
      exact ⟨rfl, Below.refl _ _⟩

set_option maxRecDepth 100000 in
set_option maxHeartbeats 1000000 in
theorem spec_WordOfLetters (B : Nat) (v : Value) (L : List Int) (w : World) (h : OwnI w B v L) (hl : L.length ≤ 1048576) :
    Calls Try.prog 74 #[v] w fun e w' => e = .returned (.tuple #[.string (wolR L).1, .int .i64 (wolR L).2]) ∧ Below w.heap.size w w' := by
  by_cases h60 : 60 < L.length
  · rw [wolR_bad (.inl h60)]
    obtain ⟨g, c, rfl, _⟩ := h.row (by omega)
    clear h
    go_enter Try.func74, Try.ntmps74
    go_wp2
    go_ret2
    exact ⟨rfl, Below.refl _ _⟩
  · by_cases hok : okN L
    · rw [wolR_ok (by omega) hok]
      by_cases h0 : L = []
      · subst h0
        have H := Lib.hid h
        obtain ⟨a1, c1, rfl⟩ := h.empty
        clear h hok
        go_enter Try.func74, Try.ntmps74
        go_wp2_with fail
        refine (l01Ls_yes _ _ [] _ H.out (by simp) okN_nil).mono ?_
        rintro e w2 ⟨rfl, b2⟩
        go_wp2_with fail
        refine wp_loop_rounds 1 ?_
        rw [rounds_succ]
        go_wp2
        go_ret2
        exact ⟨rfl, b2⟩
      · have hn : 0 < L.length := List.length_pos_iff.2 h0
        have H := Lib.hid h
        obtain ⟨g, c, rfl, _, hg, hc, hm, cell, _⟩ := h.row hn
        have C := Lib.hid cell
        have OK := Lib.hid hok
        clear h cell h0 hok
        go_enter Try.func74, Try.ntmps74
        go_wp2_with fail
        refine (l01Ls_yes _ _ L _ H.out hl OK.out).mono ?_
        rintro e w2 ⟨rfl, b2⟩
        go_wp2_with fail
        go_loopw [4, 5] (fun o i wr => ∃ (k : Nat) (t : ByteArray), k ≤ L.length ∧ i = .int .i64 k ∧ o = .string t ∧ t.size ≤ 60 ∧ Hid (t = ⟨(wordL (L.take k)).toArray⟩) ∧ Below w.heap.size w wr) (fun _ i _ => L.length - (intOf i).toNat)
        case atStart => exact ⟨0, ⟨#[]⟩, Nat.zero_le _, rfl, rfl, by decide, Lib.hid rfl, b2⟩
        case round =>
          obtain ⟨k, t, hk, rfl, rfl, ht, HT, hB⟩ := hrel
          by_cases hp : k < L.length
          · have k1 : (wr.cell? ⟨g, k, none⟩) = some (.int .i64 (L[k]'hp)) := by rw [(bcell hB).1 g k hg]; exact C.out k hp
            have hokk := OK.out k hp
            have hpu := wordB_push L k hp
            have hsz : (t ++ (⟨#[letB (L[k]'hp)]⟩ : ByteArray)).size = k + 1 := by
              rw [HT.out, wordB_push L k hp]
              show (wordL (L.take (k + 1))).toArray.size = _
              rw [List.size_toArray, wordL_len L (k + 1) (by omega)]
            have HSZ := Lib.hid hsz
            have HPU := Lib.hid hpu
            have HK1 := Lib.hid k1
            clear hpu hsz k1
            generalize hzz : L[k]'hp = z at *
            clear hzz
            have k1 := HK1.out
            obtain ⟨o1, o2⟩ := hokk
            have hpc : k < c := by omega
            go_wp2_with fail
            refine (l01Letter_any z _ o1 o2).mono ?_
            rintro e w3 ⟨rfl, b3⟩
            have e1 : (⟨#[letB z]⟩ : ByteArray).size = 1 := rfl
            generalize hq : (⟨#[letB z]⟩ : ByteArray) = q at *
            have HQ := Lib.hid hq
            have e2 : q.size ≤ 1 := by omega
            clear hq e1
            go_wp2_with fail
            go_roundw
            case rel => exact ⟨k + 1, t ++ q, by omega, by go_num, rfl, by have := HSZ.out; omega, Lib.hid (by rw [HT.out]; exact HPU.out), hB.then b3⟩
            case measure => simp [intOf]; omega
          · have hke : L.length ≤ k := by omega
            have HE : Hid (t = wordB L) := Lib.hid (by rw [HT.out, List.take_of_length_le hke]; rfl)
            go_wp2
            go_ret2
            exact ⟨by rw [HE.out]; rfl, hB⟩
    · rw [wolR_bad (.inr hok)]
      have HOK := Lib.hid hok
      have H := Lib.hid h
      have h0 : L ≠ [] := fun e => by subst e; exact hok okN_nil
      obtain ⟨g, c, rfl, _⟩ := h.row (List.length_pos_iff.2 h0)
      clear h hok h0
      go_enter Try.func74, Try.ntmps74
      go_wp2_with fail
      refine (l01Ls_no _ _ L _ H.out hl HOK.out).mono ?_
      rintro e w2 ⟨rfl, b2⟩
      go_wp2_with fail
      go_ret2
      exact ⟨rfl, b2⟩

set_option maxRecDepth 100000 in
theorem impl_WordOfLetters (B : Nat) (v : Value) (L : List Int) (w : World) (h : OwnI w B v L) (hl : L.length ≤ 1048576) :
    Calls Try.prog 56 #[v] w fun e w' => e = .returned (.tuple #[.string (wolR L).1, .int .i64 (wolR L).2]) ∧ Below w.heap.size w w' := by
  have hv : ∃ a c, v = .slice a L.length c := by
    rcases own_forms h with ⟨rfl, h0, _⟩ | ⟨g, cap, rfl, _⟩
    · exact ⟨none, 0, by rw [h0]⟩
    · exact ⟨_, _, rfl⟩
  obtain ⟨a, c, rfl⟩ := hv
  have H := Lib.hid h
  clear h
  by_cases h60 : 60 < L.length
  · rw [wolR_bad (.inl h60)]
    go_enter Try.func56, Try.ntmps56
    go_wp2
    go_ret2
    exact ⟨rfl, Below.refl _ _⟩
  · by_cases hok : okN L
    · rw [wolR_ok (by omega) hok]
      have HOK := Lib.hid hok
      clear hok
      go_enter Try.func56, Try.ntmps56
      go_wp2_with fail
      refine (areLN_yes _ _ L _ H.out hl HOK.out).mono ?_
      rintro e w2 ⟨rfl, b2⟩
      go_wp2_with fail
      refine (wordOf_any _ _ L _ (H.out.below b2) (by omega) HOK.out).mono ?_
      rintro e w3 ⟨rfl, b3⟩
      go_wp2_with fail
      go_ret2
      exact ⟨rfl, b2.then b3⟩
    · rw [wolR_bad (.inr hok)]
      have HOK := Lib.hid hok
      clear hok
      go_enter Try.func56, Try.ntmps56
      go_wp2_with fail
      refine (areLN_no _ _ L _ H.out hl HOK.out).mono ?_
      rintro e w2 ⟨rfl, b2⟩
      go_wp2_with fail
      go_ret2
      exact ⟨rfl, b2⟩

end Go.Proofs.Ytlaefpmfbnldfab
