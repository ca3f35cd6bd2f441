/- The number of the palindromes at places: the program and the model. -/
import Derived.Test.YthjbdcoklgnnlabPalIter
import Derived.Test.YthjbdcoklgnnlabMarks
import Derived.Deep.LoopGhost
namespace Go.Proofs.Ythjbdcoklgnnlab
set_option linter.unusedVariables false
set_option linter.unusedSimpArgs false
open Go.RowKit Go.Shelf
attribute [local go_sem] Oper.semAt_some

/-- A mark's record that is taken away lies behind what stood. -/
theorem below_step {w : World} : ∀ (D : Nat) (W : World), w.heap.size ≤ D → Below w.heap.size w W → W.heap[D]? = some (.deferred (some [])) → Below w.heap.size w (W.putObj D (.deferred none)) := fun D W hD hs hK => hs.trans (belowK_b (w := w) (Nat.le_refl _) W D _ _ hD hK rfl rfl)

/-- How the count stands at the head of a round. -/
def CpAt (x : ByteArray) (w : World) (gk : Nat) (a : Act) (W : World) : Prop :=
  ∃ (u1 u2 u3 u5 u6 u7 u8 u9 u12 u13 u14 u15 u16 u17 u18 u19 u20 u21 : Value) (i B4 : Nat) (Ds : List Nat), a = { tmps := #[.string x, u1, u2, u3, .pointer (some ⟨B4, 0, none⟩), u5, u6, u7, u8, u9, .int .i64 (x.size : Int), .int .i64 (i : Int), u12, u13, u14, u15, u16, u17, u18, u19, u20, u21], defers := Ds.map mkD } ∧ i + gk = x.size ∧
    Boxed W B4 2 (.int .i64 (cpN x i : Int)) ∧ w.heap.size ≤ B4 ∧ Below w.heap.size w W ∧ MarksAt W w.heap.size Ds

set_option maxRecDepth 100000 in
set_option maxHeartbeats 4000000 in
theorem impl_Cp_ok (x : ByteArray) (w : World) (h : IsW x) :
    CallsIn Fence.wide 4 Try.prog 57 #[.string x] w fun e w' => e = .returned (.tuple #[.int .i64 (cpN x x.size : Int), .int .i64 0]) ∧ Below w.heap.size w w' := by
  have hx := h.size
  have H := Lib.hid h
  clear h
  refine callsIn_of_wp_marks Try.func57 rfl trivial ?_ rfl
  simp only [Try.ntmps57, List.size_toArray, List.length_cons, List.length_nil, Nat.reduceAdd, Nat.reduceSub, Array.replicate_succ, Array.replicate_zero, List.push_toArray, List.append_toArray, List.nil_append, List.cons_append]
  gi_wp2_with (refine ⟨trivial, ?_⟩; gi_at_call 85; refine (callsIn_wide.2 (isWord_yes x _ H.out)).mono ?_; rintro e w1 ⟨rfl, b1⟩)
  have hz := b1.size
  refine wpIn_loop_ghost_k (fun n a W => CpAt x w n a W) x.size ⟨_, _, _, _, _, _, _, _, _, _, _, _, _, _, _, _, _, _, 0, w1.heap.size, [], rfl, by omega, Boxed.new w1 _ _, by omega, b1.alloc (by omega) _, MarksAt.nil _ _⟩ ?_
  clear hz b1
  intro gk a W hI J K hJ hK
  obtain ⟨u1, u2, u3, u5, u6, u7, u8, u9, u12, u13, u14, u15, u16, u17, u18, u19, u20, u21, i, B4, Ds, rfl, hg, v4, hB4, hB, hM⟩ := hI
  have c4 := v4.cell
  have hbz := hB.size
  have l4 := v4.lt
  by_cases hp : i < x.size
  · obtain ⟨g, rfl⟩ : ∃ g, gk = g + 1 := ⟨gk - 1, by omega⟩
    have hpi : (i : Int) < (x.size : Int) := by omega
    gi_wp2_with (refine ⟨trivial, ?_⟩; gi_at_call 128; refine (palindromesAt_in _ _ _ _).mono ?_; rintro e w2 ⟨rfl, rfl⟩)
    have q1 : Boxed ((W.alloc (.cells #[.string x] 9)).alloc (.cells #[.int .i64 (i : Int)] 3)) W.heap.size 9 (.string x) := (Boxed.new W _ _).alloc _
    have q2 : Boxed ((W.alloc (.cells #[.string x] 9)).alloc (.cells #[.int .i64 (i : Int)] 3)) (W.heap.size + 1) 3 (.int .i64 (i : Int)) := by
      have := Boxed.new (W.alloc (.cells #[.string x] 9)) 3 (.int .i64 (i : Int))
      rwa [World.size_alloc] at this
    have d4 := (v4.alloc (.cells #[.string x] 9)).alloc (.cells #[.int .i64 (i : Int)] 3)
    have dB := (hB.alloc hbz (.cells #[.string x] 9)).alloc (by simp; omega) (.cells #[.int .i64 (i : Int)] 3)
    have hs0 : ((W.alloc (.cells #[.string x] 9)).alloc (.cells #[.int .i64 (i : Int)] 3)).heap.size = W.heap.size + 2 := by simp
    have dM : MarksAt ((W.alloc (.cells #[.string x] 9)).alloc (.cells #[.int .i64 (i : Int)] 3)) w.heap.size Ds := hM.keep fun b o hb _ => by
      have hlt := (Array.getElem?_eq_some_iff.1 hb).1
      rw [Below.heap_alloc _ _ b (by simp; omega), Below.heap_alloc _ _ b hlt]
      exact hb
    have hMl := hM.lt
    have hMb := hM.not_box v4
    have hcn := cpN_le x i
    have hcn2 : cpN x i ≤ 3600 := Nat.le_trans hcn (Nat.le_trans (Nat.mul_le_mul (show i ≤ 60 by omega) (show x.size ≤ 60 by omega)) (by decide))
    have hci := cpI_le x i (x.size - i)
    have hll := tosL_len x i (x.size - i)
    have HC : Hid (cpN x (i + 1) = cpN x i + cpI x i (x.size - i)) := Lib.hid rfl
    generalize hW0 : (W.alloc (.cells #[.string x] 9)).alloc (.cells #[.int .i64 (i : Int)] 3) = W0 at q1 q2 d4 dB hs0 dM ⊢
    clear hW0 v4 hB hM c4
    refine wpIn_rangeFunc_ownG rfl (by decide) (gf := 167) (lb := #[.pointer (some ⟨W.heap.size, 0, none⟩), .pointer (some ⟨W.heap.size + 1, 0, none⟩)]) rfl trivial (enters_of Try.func167 (by kernel_rfl) rfl)
      (palsT_stops 3 (by decide) W.heap.size (W.heap.size + 1) w.heap.size x i hx (by omega) W0 q1 q2) kpF_t (kpF_b (by omega) (by omega) (by omega)) (Below.refl _ _) (fun _ => rfl)
      (fun pre W' => Boxed W' B4 2 (.int .i64 ((cpN x i + pre.length : Nat) : Int)) ∧ (Boxed W' W.heap.size 9 (.string x) ∧ Boxed W' (W.heap.size + 1) 3 (.int .i64 (i : Int))) ∧ Below w.heap.size w W' ∧ MarksAt W' w.heap.size Ds)
      (fun c pre W' => False)
      (fun s A B row hs hg hr => by
        obtain ⟨h4, ⟨h5, h6⟩, h7, h8⟩ := hs
        have hne : ∀ b, b < W0.heap.size → some b ≠ row := fun b hb e => by have := (hr _ e.symm).1; omega
        exact ⟨h4.kept hg (hne _ (by omega)), ⟨h5.kept hg (hne _ (by omega)), h6.kept hg (hne _ (by omega))⟩, h7.grown hg (by have := h7.size; omega) (fun k e => by have := (hr _ e).1; omega),
          ⟨h8.1, fun D hD => ⟨(h8.2 D hD).1, (hg.block D (h8.lt D hD) (hne D (by have := hMl D hD; omega))).trans (h8.2 D hD).2⟩⟩⟩)
      (fun c s A B row hs hg hr => hs.elim)
      ⟨d4, ⟨q1, q2⟩, dB, dM⟩
      (fun j => { tmps := #[.string x, u1, u2, u3, .pointer (some ⟨B4, 0, none⟩), .int .i64 (i : Int), u6, u7, u8, u9, .int .i64 (x.size : Int), .int .i64 (i : Int), .bool true, .int .i64 (i : Int), .string x, .int .i64 (i : Int), .func (.func 167) #[] #[.pointer (some ⟨W.heap.size, 0, none⟩), .pointer (some ⟨W.heap.size + 1, 0, none⟩)], .string (x.extract i j.1), u18, u19, u20, u21], defers := [] }) ?assign ?body ?done ?stop
    case assign =>
      intro l j W K hK
      gi_wp2
      first
        | exact hK
        | (go_simp; exact hK)
        | simpa using hK
    case body =>
      rintro l pre j W' ⟨h4, ⟨h5, h6⟩, h7, h8⟩ hlt
      have m5 := h5.lt
      have m6 := h6.lt
      have c4 := h4.cell
      have f4 := h4.frozen
      have m4 := h4.lt
      have hb3 : cpN x i + pre.length ≤ 4000 := by omega
      have he : ((cpN x i + (pre ++ [j]).length : Nat) : Int) = ((cpN x i + pre.length : Nat) : Int) + 1 := by simp; omega
      have HE := Lib.hid he
      clear he
      generalize cpN x i + pre.length = c at *
      gi_wp2
      exact ⟨KeepsFrom.of_grownBy (grownBy_setCell' _ _ _) (fun k e => by cases e; omega), ⟨(Below.refl _ _).setCell (p := ⟨B4, 0, none⟩) hB4 _, (grownBy_setCell' _ _ _).block _ (by omega) (fun e => by cases e; omega), (grownBy_setCell' _ _ _).block _ (by omega) (fun e => by cases e; omega)⟩, by rw [HE.out]; exact h4.set _, ⟨h5.kept (grownBy_setCell' _ _ _) (fun e => by have := Option.some.inj e; omega), h6.kept (grownBy_setCell' _ _ _) (fun e => by have := Option.some.inj e; omega)⟩, h7.setCell (p := ⟨B4, 0, none⟩) hB4 _, h8.1, fun D hD => ⟨(h8.2 D hD).1, ((grownBy_setCell' _ _ _).block D (h8.lt D hD) (fun e => hMb (by have := Option.some.inj e; exact this ▸ hD))).trans (h8.2 D hD).2⟩⟩
    case done =>
      rintro D ys W' hD hys ⟨h4, ⟨h5, h6⟩, h7, h8⟩ hKD
      have c4 := h4.cell
      have h7s := h7.size
      have hyl : ys.length = cpI x i (x.size - i) := by have := congrArg List.length hys; rwa [List.length_map, hll] at this
      rw [hyl, ← HC.out] at h4
      clear c4
      gi_wp2
      refine Handed.intro g (by omega) (hJ _ _ _ ⟨_, _, _, _, _, _, _, _, _, _, _, _, _, _, _, _, _, _, i + 1, B4, D :: Ds, rfl, by omega, h4, hB4, h7, ?_⟩)
      · exact MarksAt.cons h8 (by omega) hKD fun hm => by have := hMl D hm; omega
    case stop =>
      rintro D c pre W' hD hj hf hKD
      exact hf.elim
  · have hpi : ¬ (i : Int) < (x.size : Int) := by omega
    obtain rfl : i = x.size := by omega
    clear hp
    gi_wp2
    exact leaves_marks (fun W => Below w.heap.size w W) (fun W hW => ⟨_, results_tmp2 Try.results57 _ _ _, rfl, hW⟩) Ds _ w.heap.size hM below_step hB

set_option maxRecDepth 100000 in
theorem impl_CountPalindromes (x : ByteArray) (w : World) (sx : x.size ≤ maxLen) :
    Calls Try.prog 57 #[.string x] w fun e w' => e = .returned (.tuple #[.int .i64 (cpR x).1, .int .i64 (cpR x).2]) ∧ Below w.heap.size w w' := by
  by_cases h : IsW x
  · rw [cpR_ok h]
    exact callsIn_wide.1 (impl_Cp_ok x _ h)
  · rw [cpR_bad h]
    have H := Lib.hid h
    clear h
    go_enter Try.func57, Try.ntmps57
    go_wp2_with (go_at_call 85; refine (isWord_not x _ sx H.out).mono ?_; rintro e w1 ⟨rfl, b1⟩)
    go_ret2
    exact ⟨rfl, b1⟩

set_option maxRecDepth 100000 in
set_option maxHeartbeats 2000000 in
theorem spec_CountPalindromes (x : ByteArray) (w : World) (sx : x.size ≤ maxLen) :
    Calls Try.prog 58 #[.string x] w fun e w' => e = .returned (.tuple #[.int .i64 (cpR x).1, .int .i64 (cpR x).2]) ∧ Below w.heap.size w w' := by
  by_cases h : IsW x
  · rw [cpR_ok h]
    have hx := h.size
    have H := Lib.hid h
    clear h
    go_enter Try.func58, Try.ntmps58
    go_wp2_with fail
    refine (l01Is_yes x _ H.out).mono ?_
    rintro e w1 ⟨rfl, b1⟩
    go_wp2_with fail
    go_loopg [4, 5] x.size (fun g c v wr => ∃ i : Nat, i + g = x.size ∧ c = .int .i64 (cpN x i : Int) ∧ v = .int .i64 (i : Int) ∧ Below w.heap.size w wr)
    case atStart => exact ⟨0, by omega, rfl, rfl, b1⟩
    case round =>
      clear b1
      obtain ⟨i, hi, rfl, rfl, hB⟩ := hrel
      have hcn := cpN_le x i
      have hcn2 : cpN x i ≤ 3600 := Nat.le_trans hcn (Nat.le_trans (Nat.mul_le_mul (show i ≤ 60 by omega) (show x.size ≤ 60 by omega)) (by decide))
      by_cases hp : i < x.size
      · obtain ⟨g, rfl⟩ : ∃ g, gk = g + 1 := ⟨gk - 1, by omega⟩
        have hpi : (i : Int) < (x.size : Int) := by omega
        have HC : Hid (cpN x (i + 1) = cpN x i + cpI x i (x.size - i)) := Lib.hid rfl
        go_wp2
        go_loopg [4, 6] (x.size - i) (fun g2 c v wr => ∃ f : Nat, f + g2 = x.size - i ∧ c = .int .i64 ((cpN x i + cpI x i f : Nat) : Int) ∧ v = .int .i64 ((i : Int) + 1 + (f : Int)) ∧ Below w.heap.size w wr)
        case atStart => exact ⟨0, by omega, rfl, by simp, hB⟩
        case round =>
          clear hB
          obtain ⟨f, hf, rfl, rfl, hB⟩ := hrel
          have hci := cpI_le x i f
          by_cases hp2 : i + 1 + f ≤ x.size
          · obtain ⟨g2, rfl⟩ : ∃ g2, gk = g2 + 1 := ⟨gk - 1, by omega⟩
            have hle : (i : Int) + 1 + (f : Int) ≤ (x.size : Int) := by omega
            have hsl : ∀ W, (Instr.slice 9 (.string x) (some (.int .i64 (i : Int))) (some (.int .i64 ((i : Int) + 1 + (f : Int)))) none).run Try.prog W = .ok (.string (x.extract i (i + (f + 1)))) W := fun W => by
              have := slice_mid x i (f + 1) (by omega) W
              rwa [show (i : Int) + ((f + 1 : Nat) : Int) = (i : Int) + 1 + (f : Int) by omega] at this
            have CQ := Lib.hid fun w => l04Is_any (x.extract i (i + (f + 1))) w (by simp; omega)
            by_cases ht : palB (bl (x.extract i (i + (f + 1)))) = true
            · have HN : Hid (cpI x i (f + 1) = cpI x i f + 1) := Lib.hid (by rw [cpI, if_pos ht])
              rw [ht] at CQ
              generalize x.extract i (i + (f + 1)) = y at *
              generalize hcc : cpN x i + cpI x i f = c at *
              go_wp2_with (go_at_call 129; refine (CQ.out _).mono ?_; rintro e w2 ⟨rfl, b2⟩)
              go_roundg g2
              case measure => omega
              case rel => exact ⟨f + 1, by omega, by rw [HN.out, ← Nat.add_assoc, hcc]; go_num, by go_num, hB.then b2⟩
            · have ht2 : palB (bl (x.extract i (i + (f + 1)))) = false := by simpa using ht
              have HN : Hid (cpI x i (f + 1) = cpI x i f) := Lib.hid (by rw [cpI, if_neg ht]; rfl)
              rw [ht2] at CQ
              generalize x.extract i (i + (f + 1)) = y at *
              generalize hcc : cpN x i + cpI x i f = c at *
              go_wp2_with (go_at_call 129; refine (CQ.out _).mono ?_; rintro e w2 ⟨rfl, b2⟩)
              go_roundg g2
              case measure => omega
              case rel => exact ⟨f + 1, by omega, by rw [HN.out, hcc], by go_num, hB.then b2⟩
          · have hle : ¬ (i : Int) + 1 + (f : Int) ≤ (x.size : Int) := by omega
            have hfe : f = x.size - i := by omega
            have HE : Hid (cpN x i + cpI x i f = cpN x (i + 1)) := Lib.hid (by rw [hfe, HC.out])
            rw [HE.out]
            clear hci
            go_wp2
            go_roundg g
            case measure => omega
            case rel => exact ⟨i + 1, by omega, rfl, by go_num, hB⟩
      · have hpi : ¬ (i : Int) < (x.size : Int) := by omega
        obtain rfl : i = x.size := by omega
        clear hp
        go_wp2
        go_ret2
        exact ⟨rfl, hB⟩
  · rw [cpR_bad h]
    have H := Lib.hid h
    clear h
    go_enter Try.func58, Try.ntmps58
    go_wp2_with (go_at_call 83; refine (l01Is_no x _ sx H.out).mono ?_; rintro e w1 ⟨rfl, b1⟩)
    go_ret2
    exact ⟨rfl, b1⟩

end Go.Proofs.Ythjbdcoklgnnlab
