/- IsSeed, SeedsOf, LeastSeed: the program. -/
import Derived.Test.YtkemdiefoohdjaaSdI
import Derived.Test.YtkemdiefoohdjaaFactorsI
namespace Go.Proofs.Ytkemdiefoohdjaa
set_option linter.unusedVariables false
set_option linter.unusedSimpArgs false
open Go.RowKit

set_option maxRecDepth 100000 in
set_option maxHeartbeats 1000000 in
theorem isSeed1_any (b1 b2 : Nat) (x u : ByteArray) (w : World) (c1 : Boxed w b1 9 (.string x)) (c2 : Boxed w b2 9 (.string u)) (sx : x.size ≤ maxLen) (su : u.size ≤ maxLen) :
    Calls Try.prog 63 #[.pointer (some ⟨b1, 0, none⟩), .pointer (some ⟨b2, 0, none⟩)] w fun e w' => EndB (isSeedR x u) e ∧ Below w.heap.size w w' := by
  have k1 := c1.cell
  have k2 := c2.cell
  have c1' : Boxed (w.alloc (.cells #[.string x, .string u] 9)) b1 9 (.string x) := c1.alloc _
  have c2' : Boxed (w.alloc (.cells #[.string x, .string u] 9)) b2 9 (.string u) := c2.alloc _
  have l1' := c1'.lt
  have l2' := c2'.lt
  by_cases h : IsW x ∧ IsW u
  · have H := Lib.hid h
    have zx := h.1.size
    have zu := h.2.size
    by_cases h0 : u.size = 0 ∨ x.size < u.size
    · rw [isSeedR_out h h0]
      clear h
      have hq : u.toList.isEmpty = true ∨ (u.toList.isEmpty = false ∧ decide (u.size ≤ x.size) = false) := by
        by_cases hu : u.size = 0
        · exact .inl (nil_yesC hu)
        · exact .inr ⟨nil_noC hu, decide_eq_false (by have := h0.resolve_left hu; omega)⟩
      clear h0
      rcases hq with hq | ⟨hq, hq2⟩
      all_goals
        go_enter Try.func63, Try.ntmps63
        go_wp2_with (first | (go_at_call 47; refine (areWords2_yes _ x u _ (by simp) (by simp [go_sem]) (by simp [go_sem]) H.out.1 H.out.2).mono ?_; rintro e w1 ⟨rfl, a1⟩; have k3 := (boxed_past c2' a1 l2').cell; have k4 := (boxed_past c1' a1 l1').cell) | (go_at_call 46; first | (with_reducible refine (refuse_yes _ _).mono ?_; rintro e w2 ⟨rfl, rfl⟩) | (with_reducible refine (refuse_no _ _).mono ?_; rintro e w2 ⟨rfl, rfl⟩)))
        exact ⟨rfl, .inr ⟨rfl, rfl⟩, (Below.new _ _).then a1⟩
    · rw [isSeedR_ok h h0]
      have hq := nil_noC (fun e => h0 (.inl e))
      have hq2 : decide (u.size ≤ x.size) = true := decide_eq_true (by omega)
      have hle : u.size ≤ x.size := by omega
      clear h h0
      go_enter Try.func63, Try.ntmps63
      go_wp2_with (first | (go_at_call 47; refine (areWords2_yes _ x u _ (by simp) (by simp [go_sem]) (by simp [go_sem]) H.out.1 H.out.2).mono ?_; rintro e w1 ⟨rfl, a1⟩; have k3 := (boxed_past c2' a1 l2').cell; have k4 := (boxed_past c1' a1 l1').cell) | (go_at_call 46; first | (with_reducible refine (refuse_yes _ _).mono ?_; rintro e w2 ⟨rfl, rfl⟩) | (with_reducible refine (refuse_no _ _).mono ?_; rintro e w2 ⟨rfl, rfl⟩)) | (go_at_call 48; refine (coversAll_seed x u _ zx hle).mono ?_; rintro e w3 ⟨rfl, a3⟩))
      go_ret
      exact ⟨.inl ⟨rfl, rfl⟩, ((Below.new _ _).then a1).then a3⟩
  · rw [isSeedR_bad h]
    have H := Lib.hid h
    clear h
    go_enter Try.func63, Try.ntmps63
    go_wp2_with (first | (go_at_call 47; refine (areWords2_no _ x u _ (by simp) (by simp [go_sem]) (by simp [go_sem]) sx su H.out).mono ?_; rintro e w1 ⟨rfl, a1⟩) | (go_at_call 46; refine (refuse_no _ _).mono ?_; rintro e w2 ⟨rfl, rfl⟩))
    exact ⟨rfl, .inr ⟨rfl, rfl⟩, (Below.new _ _).then a1⟩

set_option maxRecDepth 100000 in
set_option maxHeartbeats 1000000 in
theorem impl_IsSeed (x u : ByteArray) (w : World) (sx : x.size ≤ maxLen) (su : u.size ≤ maxLen) :
    Calls Try.prog 31 #[.string x, .string u] w fun e w' => e = .returned (.tuple #[.bool (isSeedR x u).1, .int .i64 (isSeedR x u).2]) ∧ Below w.heap.size w w' := by
  have hmf : ∀ (fn : Fn) (first cap : Array Value) (w : World), (Instr.makeFunc fn first cap).run Try.prog w = .ok (.func fn first cap) w := fun _ _ _ _ => rfl
  have c1 : Boxed (((w.alloc (.cells #[.string x] 9)).alloc (.cells #[.string u] 9)).alloc (.cells #[.int .i64 0] 2)) w.heap.size 9 (.string x) := ((Boxed.new w _ _).alloc _).alloc _
  have c2 : Boxed (((w.alloc (.cells #[.string x] 9)).alloc (.cells #[.string u] 9)).alloc (.cells #[.int .i64 0] 2)) (w.heap.size + 1) 9 (.string u) := by
    have := Boxed.new (w.alloc (.cells #[.string x] 9)) 9 (.string u)
    rw [World.size_alloc] at this
    exact this.alloc _
  have hB : Below w.heap.size w ((w.alloc (.cells #[.string x] 9)).alloc (.cells #[.string u] 9)) := (Below.new _ _).alloc (by simp) _
  go_enter Try.func31, Try.ntmps31
  go_wp2_with (go_at_call 44; refine (door_test 63 _ _ (isSeedR x u) (enters_of Try.func63 (by kernel_rfl) rfl) (isSeed1_any _ _ x u _ c1 c2 sx su)).mono ?_; rintro e w1 ⟨rfl, b1⟩)
  go_ret2
  exact ⟨rfl, hB.trans (b1.mono (by simp; omega))⟩

theorem facs_mem {x z : ByteArray} {m : Nat} (h : z ∈ facs x m) : z.size ≤ x.size := by
  unfold facs at h
  obtain ⟨i, hi, rfl⟩ := (mem_facK x m z _).1 h
  rw [ByteArray.size_extract]; omega
theorem facs_size {x z : ByteArray} {m : Nat} (h : z ∈ facs x m) : z.size = m := by
  unfold facs at h
  obtain ⟨i, hi, rfl⟩ := (mem_facK x m z _).1 h
  rw [ByteArray.size_extract]; omega
theorem ownS_lkD {w : World} {B : Nat} {v : Value} {L : List ByteArray} (h : OwnS w B v L) : ∃ ad cap, v = .slice ad L.length cap ∧ ∀ j (hj : j < L.length), ∃ g, ad = some ⟨g, 0, none⟩ ∧ g < w.heap.size ∧ j < cap ∧ w.cell? ⟨g, j, none⟩ = some (.string (L[j]'hj)) := by
  rcases own_forms h with ⟨rfl, h0, _⟩ | ⟨g, cap, rfl, _, hg, hc, _, hk, _⟩
  · exact ⟨_, _, by rw [h0], fun j hj => by omega⟩
  · refine ⟨_, _, rfl, fun j hj => ⟨g, rfl, hg, by omega, ?_⟩⟩
    rw [hk j hj]
    simp [hj]

set_option maxRecDepth 100000 in
set_option maxHeartbeats 2000000 in
theorem seedsOf_any (x : ByteArray) (m : Nat) (w : World) (h : IsW x) (h1 : 1 ≤ m) (h2 : m ≤ 60) :
    Calls Try.prog 67 #[.string x, .int .i64 (m : Int)] w fun e w' => ∃ v, e = .returned v ∧ OwnD w' w.heap.size v (sds x m) ∧ Below w.heap.size w w' := by
  obtain ⟨i0, hi, hz0, hz1, hz2⟩ := info_parts infoD
  have hx := h.size
  have hf := fun W => impl_FactorsOf x (m : Int) W (by unfold maxLen; omega) (WalkArith.wf_i64 (by omega))
  rw [factorsR_ok h h2] at hf
  have hf2 : ∀ W, Calls Try.prog 82 #[.string x, .int .i64 (m : Int)] W (RetS (facs x m) 0 W) := hf
  have hl := facs_len x m
  have hz : ∀ z ∈ facs x m, z.size ≤ x.size := fun z hz => facs_mem hz
  have hsd : sds x m = (facs x m).filter (sdAll x) := rfl
  rw [hsd]
  clear hf hsd h
  generalize facs x m = L at *
  have HF := Lib.hid hf2
  have HZ := Lib.hid hz
  clear hf2 hz
  go_enter Try.func67, Try.ntmps67
  go_wp2_with (go_at_call 82; refine (HF.out _).mono ?_; rintro e w1 ⟨v1, rfl, o1, b1⟩; obtain ⟨ad, cap, rfl, look⟩ := ownS_lkD o1)
  have LK := Lib.hid look
  clear look o1
  go_loopw [5, 18] (fun s5 s18 wr => ∃ k : Nat, k ≤ L.length ∧ s18 = .int .i64 (k : Int) ∧ OwnD wr w1.heap.size s5 (L.take k) ∧ Below w1.heap.size w1 wr)
    (fun _ s18 _ => L.length - (intOf s18).toNat)
  case atStart => exact ⟨0, Nat.zero_le _, rfl, ownD_nil _ _, Below.refl _ _⟩
  case round =>
    obtain ⟨k, hk, rfl, hown, hB⟩ := hrel
    have hbz := hB.size
    by_cases hp : k < L.length
    · obtain ⟨g, rfl, hg2, hg3, hg4⟩ := LK.out k hp
      have kc : wr.cell? ⟨g, k, none⟩ = some (.string (L[k]'hp)) := by rw [(bcell hB).1 g k hg2]; exact hg4
      have hkn : (k : Int) < (L.length : Int) := by omega
      have hk0 : (0 : Int) ≤ (k : Int) := by omega
      clear hg4
      have hfl : (L.take k).length ≤ 4096 := by rw [List.length_take]; omega
      have HS := Lib.hid (List.take_succ_eq_append_getElem hp)
      generalize L[k]'hp = z at *
      generalize L.take k = M at *
      go_wp2_with (at_builtin; refine wpList_append_own _ rfl _ _ 67 rfl w1.heap.size 63 i0 (.string ⟨#[]⟩) 1 16 Try.underlying67 hi hz0 hz1 hz2 rfl (by decide) _ _ _ rfl (World.ownsRow.alloc hown _) ⟨_, 0, none⟩ 1 1 [.string z] rfl rfl (cell_new _ _ _) (by intro u hu; simp at hu; subst hu; rfl) (by unfold maxLen; omega) (by omega) (by simp; omega) ?_; intro v' w3 hown' hgrow _)
      go_roundw
      case rel =>
        refine ⟨k + 1, by omega, by go_num, by rw [HS.out]; exact ownD_snoc hown', ?_⟩
        exact (hB.alloc (by omega) _).grown hgrow (by simp; omega) (fun q hq => (hown.lt q hq).1)
      case measure => simp [intOf]; omega
    · obtain rfl : k = L.length := by omega
      have hkn : ¬ (L.length : Int) < (L.length : Int) := by omega
      rw [List.take_length] at hown
      have hb1z := b1.size
      go_wp2_with (go_at_call 90; refine (coveringAll_D _ _ L x _ hown (by omega) hx HZ.out).mono ?_; rintro e w4 ⟨v4, rfl, o4, b4⟩)
      go_ret
      exact ⟨_, rfl, own_base o4 (by omega), (b1.then hB).then b4⟩

theorem sds_size {x : ByteArray} {m : Nat} (h : x.size ≤ 60) : ∀ z ∈ sds x m, z.size ≤ 60 := fun z hz => Nat.le_trans (facs_mem (List.mem_filter.1 hz).1) h
set_option maxRecDepth 100000 in
set_option maxHeartbeats 1000000 in
theorem seedsOf1_any (b1 b2 : Nat) (x : ByteArray) (m : Int) (w : World) (c1 : Boxed w b1 9 (.string x)) (c2 : Boxed w b2 2 (.int .i64 m)) (sx : x.size ≤ maxLen) :
    Calls Try.prog 66 #[.pointer (some ⟨b1, 0, none⟩), .pointer (some ⟨b2, 0, none⟩)] w fun e w' => EndS (seedsR x m) w.heap.size e w' ∧ Below w.heap.size w w' := by
  have k1 := c1.cell
  have l1 := c1.lt
  have l2 := c2.lt
  by_cases h : IsW x
  · have H := Lib.hid h
    have hx := h.size
    by_cases h0 : m < 1 ∨ 60 < m
    · rw [seedsR_out h h0]
      clear h
      have hq' : ¬ 1 ≤ m ∨ (1 ≤ m ∧ decide (m ≤ 60) = false) := by
        by_cases hm : m < 1
        · exact .inl (by omega)
        · exact .inr ⟨by omega, decide_eq_false (by omega)⟩
      clear h0
      rcases hq' with hq' | ⟨hq', hq2'⟩
      all_goals
        go_enter Try.func66, Try.ntmps66
        go_wp2_with (first | (go_at_call 53; refine (isWord_yes x _ H.out).mono ?_; rintro e w1 ⟨rfl, a1⟩; have k3 := (boxed_past c2 a1 l2).cell; have k4 := (boxed_past c1 a1 l1).cell) | (go_at_call 46; first | (with_reducible refine (refuse_yes _ _).mono ?_; rintro e w2 ⟨rfl, rfl⟩) | (with_reducible refine (refuse_no _ _).mono ?_; rintro e w2 ⟨rfl, rfl⟩)))
        exact ⟨rfl, .inr ⟨rfl, rfl⟩, a1⟩
    · obtain ⟨n, rfl⟩ : ∃ n : Nat, m = n := ⟨m.toNat, by omega⟩
      rw [seedsR_ok h (by omega) (by omega)]
      have hq1 : (1 : Int) ≤ (n : Int) := by omega
      have hq2 : (n : Int) ≤ 60 := by omega
      have hn1 : 1 ≤ n := by omega
      have hn2 : n ≤ 60 := by omega
      have HS := Lib.hid (sds_size (m := n) hx)
      have hl := sds_len x n
      clear h h0
      go_enter Try.func66, Try.ntmps66
      go_wp2_with (first | (go_at_call 53; refine (isWord_yes x _ H.out).mono ?_; rintro e w1 ⟨rfl, a1⟩; have k3 := (boxed_past c2 a1 l2).cell; have k4 := (boxed_past c1 a1 l1).cell) | (go_at_call 46; with_reducible refine (refuse_yes _ _).mono ?_; rintro e w2 ⟨rfl, rfl⟩) | (go_at_call 67; refine (seedsOf_any x n _ H.out hn1 hn2).mono ?_; rintro e w3 ⟨v3, rfl, o3, a3⟩) | (go_at_call 68; refine (texts_D _ _ _ _ o3 (by omega) HS.out).mono ?_; rintro e w4 ⟨v4, rfl, o4, a4⟩))
      go_ret
      exact ⟨.inl ⟨_, rfl, o4.base (a1.then a3).size, rfl⟩, (a1.then a3).then a4⟩
  · rw [seedsR_bad h]
    have H := Lib.hid h
    clear h
    go_enter Try.func66, Try.ntmps66
    go_wp2_with (first | (go_at_call 53; refine (isWord_not x _ sx H.out).mono ?_; rintro e w1 ⟨rfl, a1⟩) | (go_at_call 46; refine (refuse_no _ _).mono ?_; rintro e w2 ⟨rfl, rfl⟩))
    exact ⟨rfl, .inr ⟨rfl, rfl⟩, a1⟩

set_option maxRecDepth 100000 in
theorem impl_SeedsOf (x : ByteArray) (m : Int) (w : World) (sx : x.size ≤ maxLen) (wm : (Lit.int .i64 m).wf = true) :
    Calls Try.prog 33 #[.string x, .int .i64 m] w (RetS (seedsR x m).1 (seedsR x m).2 w) := by
  have hmf : ∀ (fn : Fn) (first cap : Array Value) (w : World), (Instr.makeFunc fn first cap).run Try.prog w = .ok (.func fn first cap) w := fun _ _ _ _ => rfl
  have c1 : Boxed (((w.alloc (.cells #[.string x] 9)).alloc (.cells #[.int .i64 m] 2)).alloc (.cells #[.int .i64 0] 2)) w.heap.size 9 (.string x) := ((Boxed.new w _ _).alloc _).alloc _
  have c2 : Boxed (((w.alloc (.cells #[.string x] 9)).alloc (.cells #[.int .i64 m] 2)).alloc (.cells #[.int .i64 0] 2)) (w.heap.size + 1) 2 (.int .i64 m) := by
    have := Boxed.new (w.alloc (.cells #[.string x] 9)) 2 (.int .i64 m)
    rw [World.size_alloc] at this
    exact this.alloc _
  have hB : Below w.heap.size w ((w.alloc (.cells #[.string x] 9)).alloc (.cells #[.int .i64 m] 2)) := (Below.new _ _).alloc (by simp) _
  go_enter Try.func33, Try.ntmps33
  go_wp2_with (go_at_call 51; refine (door_list 66 _ _ (seedsR x m) (enters_of Try.func66 (by kernel_rfl) rfl) (seedsOf1_any _ _ x m _ c1 c2 sx)).mono ?_; rintro e w1 ⟨v, rfl, o1, b1⟩)
  go_ret2
  exact ⟨_, rfl, o1.base (by simp; omega), hB.trans (b1.mono (by simp; omega))⟩

set_option maxRecDepth 100000 in
set_option maxHeartbeats 2000000 in
theorem leastSeed1_any (b : Nat) (x : ByteArray) (w : World) (c1 : Boxed w b 9 (.string x)) (sx : x.size ≤ maxLen) :
    Calls Try.prog 69 #[.pointer (some ⟨b, 0, none⟩)] w fun e w' => EndT (leastSeedR x) e ∧ Below w.heap.size w w' := by
  have k1 := c1.cell
  have l1 := c1.lt
  by_cases h : IsW x
  · have H := Lib.hid h
    have hx := h.size
    have hr : x.size = 0 → leastSeedR x = (⟨#[]⟩, 4) := leastSeedR_empty h
    have hr2 : ¬ x.size = 0 → leastSeedR x = (ls x, 0) := leastSeedR_ok h
    have HR := Lib.hid hr
    have HR2 := Lib.hid hr2
    clear h hr hr2
    go_enter Try.func69, Try.ntmps69
    go_wp2_with (first | (go_at_call 53; refine (isWord_yes x _ H.out).mono ?_; rintro e w2 ⟨rfl, a1⟩; have c2 := boxed_past c1 a1 l1; have k2 := c2.cell) | (go_at_call 46; with_reducible refine (refuse_yes _ _).mono ?_; rintro e w1 ⟨rfl, rfl⟩))
    go_loopw [2] (fun s2 wr => ∃ k : Nat, k ≤ x.size ∧ s2 = .int .i64 ((k : Int) + 1) ∧ Hid (∀ i, i < k → sds x (i + 1) = []) ∧ Below w1.heap.size w1 wr)
      (fun s2 _ => x.size + 2 - (intOf s2).toNat)
    case atStart => exact ⟨0, Nat.zero_le _, rfl, Lib.hid (fun i hi => by omega), Below.refl _ _⟩
    case round =>
      obtain ⟨k, hk, rfl, hi, hB⟩ := hrel
      have c4 := boxed_past c2 hB c2.lt
      have k4 := c4.cell
      have l4 := c4.lt
      by_cases hp : k < x.size
      · obtain ⟨m, hm⟩ : ∃ m : Nat, k + 1 = m := ⟨_, rfl⟩
        have em : (k : Int) + 1 = (m : Int) := by omega
        have hml : (m : Int) ≤ (x.size : Int) := by omega
        have hm1 : 1 ≤ m := by omega
        have hm2 : m ≤ 60 := by omega
        have HS := Lib.hid (sds_size (x := x) (m := m) hx)
        have hl := sds_len x m
        by_cases hz : 0 < (sds x m).length
        · have hq : ((sds x m).length : Int) > 0 := by omega
          have e0 := HR2.out (by omega)
          have e1 : Hid (∀ h : 0 < (sds x m).length, (sds x m)[0]'h = ls x) := Lib.hid fun h => by
            have := ls_at (k := k) hp hi.out (by rw [hm]; exact h)
            simp only [hm] at this
            exact this.symm
          have SO := Lib.hid (fun W => seedsOf_any x m W H.out hm1 hm2)
          clear hi HR HR2
          have E0 := Lib.hid e0
          clear e0
          generalize sds x m = L at *
          go_wp2_with (first | (go_at_call 67; refine (SO.out _).mono ?_; rintro e w3 ⟨v3, rfl, o3, a3⟩; obtain ⟨ad3, cp3, rfl, _⟩ := ownD_look o3) | (go_at_call 68; refine (texts_D _ _ _ _ o3 (by omega) HS.out).mono ?_; rintro e w4 ⟨v4, rfl, o4, a4⟩; obtain ⟨g4, c4, rfl, z1, z2, z3, z4, z5, z6⟩ := o4.row hz; have y1 := z5 0 hz; rw [e1.out hz] at y1; clear z5))
          go_ret
          exact ⟨by rw [E0.out]; exact .inl ⟨rfl, rfl⟩, ((a1.then hB).then a3).then a4⟩
        · have hq : ¬ ((sds x m).length : Int) > 0 := by omega
          have e1 : sds x m = [] := List.eq_nil_of_length_eq_zero (by omega)
          have hi2 : Hid (∀ i, i < k + 1 → sds x (i + 1) = []) := Lib.hid fun i hi1 => by
            by_cases e : i = k
            · subst e; rw [hm]; exact e1
            · exact hi.out i (by omega)
          clear hi
          go_wp2_with (go_at_call 67; refine (seedsOf_any x m _ H.out hm1 hm2).mono ?_; rintro e w3 ⟨v3, rfl, o3, a3⟩; obtain ⟨ad3, cp3, rfl, _⟩ := ownD_look o3)
          go_roundw
          case rel => exact ⟨k + 1, by omega, by go_num, hi2, hB.then a3⟩
          case measure => simp [intOf]; omega
      · obtain rfl : k = x.size := by omega
        have hkn : ¬ ((x.size : Int) + 1) ≤ (x.size : Int) := by omega
        have h0 : x.size = 0 := by
          by_cases e : x.size = 0
          · exact e
          · have := hi.out (x.size - 1) (by omega)
            rw [show x.size - 1 + 1 = x.size by omega, sds_self (by omega)] at this
            cases this
        have E0 := Lib.hid (HR.out h0)
        clear hi HR HR2
        go_wp2_with fail
        exact ⟨rfl, by rw [E0.out]; exact .inr ⟨rfl, rfl⟩, a1.then hB⟩
  · rw [leastSeedR_bad h]
    have H := Lib.hid h
    clear h
    go_enter Try.func69, Try.ntmps69
    go_wp2_with (first | (go_at_call 53; refine (isWord_not x _ sx H.out).mono ?_; rintro e w1 ⟨rfl, a1⟩) | (go_at_call 46; refine (refuse_no _ _).mono ?_; rintro e w2 ⟨rfl, rfl⟩))
    exact ⟨rfl, .inr ⟨rfl, rfl⟩, a1⟩

set_option maxRecDepth 100000 in
theorem impl_LeastSeed (x : ByteArray) (w : World) (sx : x.size ≤ maxLen) :
    Calls Try.prog 35 #[.string x] w fun e w' => e = .returned (.tuple #[.string (leastSeedR x).1, .int .i64 (leastSeedR x).2]) ∧ Below w.heap.size w w' := by
  have hmf : ∀ (fn : Fn) (first cap : Array Value) (w : World), (Instr.makeFunc fn first cap).run Try.prog w = .ok (.func fn first cap) w := fun _ _ _ _ => rfl
  have c1 : Boxed ((w.alloc (.cells #[.string x] 9)).alloc (.cells #[.int .i64 0] 2)) w.heap.size 9 (.string x) := (Boxed.new w _ _).alloc _
  have hB : Below w.heap.size w (w.alloc (.cells #[.string x] 9)) := Below.new _ _
  go_enter Try.func35, Try.ntmps35
  go_wp2_with (go_at_call 57; refine (door_text 69 _ _ (leastSeedR x) (enters_of Try.func69 (by kernel_rfl) rfl) (leastSeed1_any w.heap.size x _ c1 sx)).mono ?_; rintro e w1 ⟨rfl, b1⟩)
  go_ret2
  exact ⟨rfl, hB.then b1⟩

end Go.Proofs.Ytkemdiefoohdjaa
