/- The window of a length: the program. -/
import Derived.Test.YtbhgghajbdlfkabWinPlain
import Derived.Test.YtbhgghajbdlfkabConcat
import Derived.Test.YtbhgghajbdlfkabGapsI
import Derived.Test.YtbhgghajbdlfkabCx
import Derived.Test.YtbhgghajbdlfkabShelf
namespace Go.Proofs.Ytbhgghajbdlfkab
set_option linter.unusedVariables false
set_option linter.unusedSimpArgs false
open Go.RowKit Go.Conc

theorem heap3 (W : World) (a b c : Obj) : (((W.alloc a).alloc b).alloc c).heap[W.heap.size]? = some a ∧ (((W.alloc a).alloc b).alloc c).heap[W.heap.size + 1]? = some b ∧ (((W.alloc a).alloc b).alloc c).heap[W.heap.size + 2]? = some c := by
  have h1 := heap_alloc_new W a
  have h2 := heap_alloc_new (W.alloc a) b
  have h3 := heap_alloc_new ((W.alloc a).alloc b) c
  simp only [World.size_alloc] at h2 h3
  have k1 : ((W.alloc a).alloc b).heap[W.heap.size]? = some a := ((Below.new (W.alloc a) b).block _ (by simp)).trans h1
  exact ⟨((Below.new ((W.alloc a).alloc b) c).block _ (by simp; omega)).trans k1, ((Below.new ((W.alloc a).alloc b) c).block _ (by simp)).trans h2, h3⟩
theorem cell_of_heap {W : World} {g : Nat} {cs : Array Value} {t : TypeId} (h : W.heap[g]? = some (.cells cs t)) (j : Nat) : W.cell? ⟨g, j, none⟩ = cs[j]? := by
  unfold World.cell?
  rw [show (⟨g, j, none⟩ : Addr).block = g from rfl, h]
  rfl

set_option maxRecDepth 100000 in
set_option maxHeartbeats 2000000 in
theorem widestGap_any (x f : ByteArray) (w : World) (h : IsW x ∧ IsW f) (hf : f.size ≤ x.size) (hne : posOf x f (List.range (x.size + 1 - f.size)) ≠ []) :
    Calls Try.prog 79 #[.string x, .string f] w fun e w' => e = .returned (.int .i64 (wgap x f)) ∧ Below w.heap.size w w' := by
  have hx := h.1.size
  have HC := Lib.hid fun w => impl_PlacesOf x f w (by unfold maxLen; omega) (by unfold maxLen; omega)
  rw [placesR_ok h] at HC
  have hl := posOf_len60 (u := f) h.1
  have HP := Lib.hid (posOf_range (u := f) h.1)
  have HW : Hid (wgap x f = Lib.maxOf (gapsOf ([-1] ++ (posOf x f (List.range (x.size + 1 - f.size)) ++ [(x.size : Int) - f.size + 1])))) := Lib.hid rfl
  generalize wgap x f = R at *
  generalize posOf x f (List.range (x.size + 1 - f.size)) = P at *
  have hpl : 0 < P.length := List.length_pos_iff.2 hne
  clear h hne
  go_enter Try.func79, Try.ntmps79
  go_wp2_with (go_at_call 33; refine (HC.out _).mono ?_; rintro e w1 ⟨v, rfl, o1, b1⟩; obtain ⟨gP, cP, rfl, _, hgP, _, _, kP, _⟩ := OwnI.row o1 hpl; have KP := Lib.hid kP; clear o1 kP)
  have HH := heap3 w1 (.cells #[Value.int IntKind.i64 (-1)] 2) (.cells #[Value.int IntKind.i64 ((x.size : Int) - (f.size : Int) + 1)] 2) (.cells #[.slice (some ⟨w1.heap.size, 0, none⟩) 1 1, .slice (some ⟨gP, 0, none⟩) P.length cP, .slice (some ⟨w1.heap.size + 1, 0, none⟩) 1 1] 41)
  have hB3 : Below w1.heap.size w1 (((w1.alloc (.cells #[Value.int IntKind.i64 (-1)] 2)).alloc (.cells #[Value.int IntKind.i64 ((x.size : Int) - (f.size : Int) + 1)] 2)).alloc (.cells #[.slice (some ⟨w1.heap.size, 0, none⟩) 1 1, .slice (some ⟨gP, 0, none⟩) P.length cP, .slice (some ⟨w1.heap.size + 1, 0, none⟩) 1 1] 41)) := ((Below.new w1 _).alloc (by simp) _).alloc (by simp; omega) _
  have hz3 : (((w1.alloc (.cells #[Value.int IntKind.i64 (-1)] 2)).alloc (.cells #[Value.int IntKind.i64 ((x.size : Int) - (f.size : Int) + 1)] 2)).alloc (.cells #[.slice (some ⟨w1.heap.size, 0, none⟩) 1 1, .slice (some ⟨gP, 0, none⟩) P.length cP, .slice (some ⟨w1.heap.size + 1, 0, none⟩) 1 1] 41)).heap.size = w1.heap.size + 3 := by simp
  have hgP2 : gP < w1.heap.size := hgP
  generalize hW3 : (((w1.alloc (.cells #[Value.int IntKind.i64 (-1)] 2)).alloc (.cells #[Value.int IntKind.i64 ((x.size : Int) - (f.size : Int) + 1)] 2)).alloc (.cells #[.slice (some ⟨w1.heap.size, 0, none⟩) 1 1, .slice (some ⟨gP, 0, none⟩) P.length cP, .slice (some ⟨w1.heap.size + 1, 0, none⟩) 1 1] 41)) = W3 at *
  have hk0 := cell_of_heap HH.2.2 0
  have hk1 := cell_of_heap HH.2.2 1
  have hk2 := cell_of_heap HH.2.2 2
  have C3 := concat3_any [-1] P [(x.size : Int) - (f.size : Int) + 1] w1.heap.size gP (w1.heap.size + 1) 1 cP 1 (w1.heap.size + 2) 3 W3 (by decide) (by simp; omega) (by omega) (by omega) (by omega) (by omega)
    (fun j hj => by obtain rfl : j = 0 := by simpa using hj
                    exact cell_of_heap HH.1 0)
    (fun j hj => ((bcell hB3).1 gP j hgP2).trans (KP.out j hj))
    (fun j hj => by obtain rfl : j = 0 := by simpa using hj
                    exact cell_of_heap HH.2.1 0)
    hk0 hk1 hk2
  have HC3 := Lib.hid C3
  have HB3 := Lib.hid hB3
  clear HH hk0 hk1 hk2 C3 hW3 hB3
  refine HC3.out.mono ?_
  rintro e w4 ⟨v4, rfl, o4, b4⟩
  have hE : ([-1] ++ (P ++ [(x.size : Int) - (f.size : Int) + 1])).length ≤ 100 := by simp; omega
  have hEb : ∀ z ∈ [-1] ++ (P ++ [(x.size : Int) - (f.size : Int) + 1]), -1 ≤ z ∧ z ≤ 61 := by
    intro z hz
    rcases List.mem_append.1 hz with hz | hz
    · simp at hz; omega
    · rcases List.mem_append.1 hz with hz | hz
      · exact HP.out z hz
      · simp at hz; omega
  have HGB := Lib.hid (gapsBetween_any _ _ v4 w4 o4 hE hEb)
  have hgl := gapsOf_len ([-1] ++ (P ++ [(x.size : Int) - (f.size : Int) + 1]))
  have hgl2 : 0 < (gapsOf ([-1] ++ (P ++ [(x.size : Int) - (f.size : Int) + 1]))).length := by rw [hgl]; simp
  have hgl3 : (gapsOf ([-1] ++ (P ++ [(x.size : Int) - (f.size : Int) + 1]))).length ≤ 100 := by rw [hgl]; omega
  clear hE hEb o4 hgl
  generalize gapsOf ([-1] ++ (P ++ [(x.size : Int) - (f.size : Int) + 1])) = Gp at *
  go_wp2_with fail
  refine HGB.out.mono ?_
  rintro e w5 ⟨v5, rfl, o5, b5⟩
  obtain ⟨g5, c5, rfl, _, hg5, _, _, k5, _⟩ := OwnI.row o5 hgl2
  have HMX := Lib.hid (Try.slices_Max_int g5 0 Gp.length c5 Gp w5 hgl2 (Nat.le_refl _) (by omega) (fun j hj => by rw [Nat.zero_add, k5 j hj, List.getD_eq_getElem?_getD, List.getElem?_eq_getElem hj]; rfl))
  clear o5 k5
  go_wp2_with fail
  refine HMX.out.mono ?_
  rintro e w6 ⟨rfl, rfl⟩
  go_wp2_with fail
  go_ret
  refine ⟨by rw [HW.out]; rfl, ((b1.then HB3.out).then b4).then b5⟩

theorem IsW.ext5 {x : ByteArray} (h : IsW x) (a b : Nat) : IsW (x.extract a b) := by
  refine ⟨by have := h.size; simp; omega, fun i hi => ?_⟩
  rw [ByteArray.getElem_extract]
  exact h.2 _ _
theorem facs_isW {x : ByteArray} (h : IsW x) {m : Nat} : ∀ f ∈ facs x m, IsW f := by
  intro f hf
  unfold facs at hf
  obtain ⟨i, _, rfl⟩ := (mem_facK x m f _).1 hf
  exact h.ext5 _ _
theorem winOf_take_bound (x : ByteArray) (m k : Nat) (hx : x.size ≤ 60) (hm : m ≤ x.size) : 0 ≤ winOf x m ((facs x m).take k) ∧ winOf x m ((facs x m).take k) ≤ 60 := by
  obtain ⟨h1, h2, h3⟩ := winOf_all x m ((facs x m).take k)
  refine ⟨by omega, ?_⟩
  rcases h3 with h3 | ⟨f, hf, h3⟩
  · omega
  · obtain ⟨f1, f2, f3⟩ := facs_pos f (List.mem_of_mem_take hf)
    have := wgap_bound x f (by omega) f3
    omega

set_option maxRecDepth 100000 in
set_option maxHeartbeats 2000000 in
theorem impl_WindowOf_ok (x : ByteArray) (m : Nat) (w : World) (h : IsW x) (hm : m ≤ 60) (hmx : m ≤ x.size) (sx : x.size ≤ maxLen) :
    Calls Try.prog 36 #[.string x, .int .i64 (m : Int)] w fun e w' => e = .returned (.tuple #[.int .i64 (winOf x m (facs x m)), .int .i64 0]) ∧ Below w.heap.size w w' := by
  have hx := h.size
  have HO := Lib.hid fun w => factorsOver_any x (m : Int) w sx (WalkArith.wf_i64 (by omega))
  rw [factorsR_ok h hm] at HO
  change Hid (∀ w, Calls _ _ _ w fun e w' => ∃ c, e = .returned (.chan (some c)) ∧ w.heap.size ≤ c ∧ c < w'.heap.size ∧ (∃ s, ChanAt w' c (facs x m).length (facs x m) true s 0) ∧ Below w.heap.size w w') at HO
  have HG : Hid (∀ f ∈ facs x m, ∀ W, Calls Try.prog 79 #[.string x, .string f] W fun e w' => e = .returned (.int .i64 (wgap x f)) ∧ Below W.heap.size W w') := Lib.hid fun f hf W => by
    obtain ⟨f1, f2, f3⟩ := facs_pos f hf
    exact widestGap_any x f W ⟨h, facs_isW h f hf⟩ (by omega) f3
  have HBW := Lib.hid fun f (hf : f ∈ facs x m) => by
    obtain ⟨f1, f2, f3⟩ := facs_pos f hf
    exact wgap_bound x f (by omega) f3
  have HWB := Lib.hid fun k => winOf_take_bound x m k hx hmx
  have H := Lib.hid h
  have d3 : decide (x.size < m) = false := decide_eq_false (by omega)
  have hmi : ¬ (x.size : Int) < (m : Int) := by omega
  obtain ⟨R, HR⟩ : ∃ R, Hid (winOf x m (facs x m) = R) := ⟨_, Lib.hid rfl⟩
  rw [HR.out]
  generalize facs x m = FF at *
  clear h
  go_enter Try.func36, Try.ntmps36
  go_wp2_with (first | (go_at_call 52; refine (isWord_yes x _ H.out).mono ?_; rintro e w1 ⟨rfl, b1⟩) | (go_at_call 78; refine (HO.out _).mono ?_; rintro e w2 ⟨c, rfl, hc1, hc2, ⟨s2, hch⟩, b2⟩))
  have B2 := b1.then b2
  have hz2' := B2.size
  have hz1' := b1.size
  go_loopg [6] FF.length (fun gk v wr => ∃ k : Nat, k + gk = FF.length ∧ (∃ s r, ChanAt wr c FF.length (FF.drop k) true s r) ∧ v = .int .i64 (winOf x m (FF.take k)) ∧ Below w.heap.size w wr)
  case atStart => exact ⟨0, by omega, ⟨_, _, hch⟩, rfl, B2⟩
  case round =>
    clear hch
    obtain ⟨k, hk, ⟨s, r, hch⟩, rfl, hB⟩ := hrel
    by_cases hp : k < FF.length
    · obtain ⟨gq, rfl⟩ : ∃ gq, gk = gq + 1 := ⟨gk - 1, by omega⟩
      have HK := Lib.hid hk
      have hd := List.drop_eq_getElem_cons hp
      rw [hd] at hch
      have HGz := Lib.hid (HG.out _ (List.getElem_mem hp))
      have hbz := HBW.out _ (List.getElem_mem hp)
      have hwb := HWB.out k
      have HT : Hid (winOf x m (FF.take (k + 1)) = max (winOf x m (FF.take k)) (wgap x (FF[k]'hp) + m - 1)) := Lib.hid (by rw [List.take_succ_eq_append_getElem hp, winOf_snoc])
      clear hk hd
      generalize FF[k]'hp = z at *
      generalize wgap x z = gz at *
      generalize winOf x m (FF.take k) = ww at *
      go_upto_region 9 with fail
      refine opsTo_region ?_
      show OpsTo _ _ _ [0, 1] _ _
      refine opsTo_recv (c := c) (z := .string ⟨#[]⟩) (w₁ := wr) true rfl rfl (by simp [go_sem, Act.eval, rcase]) hch (by rw [bufS_size]; exact Nat.succ_pos _) ?_
      have hch2 := chanAt_recv hch
      have hB2 := below_setChan hB (show w.heap.size ≤ c by omega) FF.length ((bufS (z :: FF.drop (k + 1))).extract 1 (bufS (z :: FF.drop (k + 1))).size) true s (r + 1) false
      rw [bufS_get]
      generalize wr.setChan c FF.length ((bufS (z :: FF.drop (k + 1))).extract 1 (bufS (z :: FF.drop (k + 1))).size) true s (r + 1) false = wn at *
      refine opsTo_value (v := .bool true) (w' := wn) rfl rfl (by simp [go_sem, Act.eval, Act.put, got]) ?_
      refine opsTo_nil ?_
      simp only [Act.put, got, ↓reduceIte, List.setIfInBounds_toArray, List.set_cons_succ, List.set_cons_zero]
      have hcl : c < wn.heap.size := (Array.getElem?_eq_some_iff.1 hch2).1
      have HCH := Lib.hid hch2
      clear hch hB hch2
      go_wp2_with (go_at_call 79; refine (HGz.out _).mono ?_; rintro e w3 ⟨rfl, b3⟩)
      have hch3 : ChanAt w3 c FF.length (FF.drop (k + 1)) true s (r + 1) := (b3.block c hcl).trans HCH.out
      go_roundg gq
      case measure => omega
      case rel => exact ⟨k + 1, by have := HK.out; omega, ⟨_, _, hch3⟩, by rw [HT.out], hB2.then b3⟩
    · obtain rfl : gk = 0 := by omega
      obtain rfl : k = FF.length := by omega
      rw [List.drop_length] at hch
      rw [List.take_length]
      have HE := Lib.hid HR.out
      go_upto_region 9 with fail
      refine opsTo_region ?_
      show OpsTo _ _ _ [0, 1] _ _
      refine opsTo_shut (c := c) (z := .string ⟨#[]⟩) (w₁ := wr) true rfl rfl (by simp [go_sem, Act.eval, rcase]) hch ?_
      refine opsTo_value (v := .bool false) (w' := wr) rfl rfl (by simp [go_sem, Act.eval, Act.put, got]) ?_
      refine opsTo_nil ?_
      simp only [Act.put, got, ↓reduceIte, List.setIfInBounds_toArray, List.set_cons_succ, List.set_cons_zero]
      clear hch
      go_wp2
      go_ret2
      exact ⟨by rw [← HE.out]; rfl, hB⟩

set_option maxRecDepth 100000 in
theorem impl_WindowOf (x : ByteArray) (m : Int) (w : World) (sx : x.size ≤ maxLen) (wm : (Lit.int .i64 m).wf = true) :
    Calls Try.prog 36 #[.string x, .int .i64 m] w fun e w' => e = .returned (.tuple #[.int .i64 (winR x m).1, .int .i64 (winR x m).2]) ∧ Below w.heap.size w w' := by
  by_cases h : IsW x
  · by_cases h1 : m < 0
    · rw [winR_out h (.inl h1)]
      have H := Lib.hid h
      clear h
      go_enter Try.func36, Try.ntmps36
      go_wp2_with (go_at_call 52; refine (isWord_yes x _ H.out).mono ?_; rintro e w1 ⟨rfl, b1⟩)
      go_ret2
      exact ⟨rfl, b1⟩
    · by_cases h2 : 60 < m
      · rw [winR_out h (.inr h2)]
        have H := Lib.hid h
        clear h
        go_enter Try.func36, Try.ntmps36
        go_wp2_with (go_at_call 52; refine (isWord_yes x _ H.out).mono ?_; rintro e w1 ⟨rfl, b1⟩)
        go_ret2
        exact ⟨rfl, b1⟩
      · obtain ⟨n, rfl⟩ := Int.eq_ofNat_of_zero_le (show 0 ≤ m by omega)
        by_cases h3 : x.size < n
        · rw [winR_none h (by omega) h3]
          have H := Lib.hid h
          have h3i : (x.size : Int) < (n : Int) := by omega
          clear h
          go_enter Try.func36, Try.ntmps36
          go_wp2_with (go_at_call 52; refine (isWord_yes x _ H.out).mono ?_; rintro e w1 ⟨rfl, b1⟩)
          go_ret2
          exact ⟨rfl, b1⟩
        · rw [winR_ok h (by omega) (by omega)]
          exact impl_WindowOf_ok x n w h (by omega) (by omega) sx
  · rw [winR_bad h]
    have H := Lib.hid h
    clear h
    go_enter Try.func36, Try.ntmps36
    go_wp2_with (go_at_call 52; refine (isWord_not x _ sx H.out).mono ?_; rintro e w1 ⟨rfl, b1⟩)
    go_ret2
    exact ⟨rfl, b1⟩

end Go.Proofs.Ytbhgghajbdlfkab
