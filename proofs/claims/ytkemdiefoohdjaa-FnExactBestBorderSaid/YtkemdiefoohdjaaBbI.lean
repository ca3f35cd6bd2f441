/- BestBorder: the program. -/
import Derived.Test.YtkemdiefoohdjaaDoorC
import Derived.Test.YtkemdiefoohdjaaPop
import Derived.Test.YtkemdiefoohdjaaBbPlain
import Derived.Test.YtkemdiefoohdjaaBorders
import Derived.Test.YtkemdiefoohdjaaCvC
import Derived.Deep.RegionHeld3
namespace Go.Proofs.Ytkemdiefoohdjaa
set_option linter.unusedVariables false
set_option linter.unusedSimpArgs false
open Go.RowKit

def Cw2 (W : World) (b : Nat) (x y : Value) : Prop := W.heap[b]? = some (.cells #[x, y] 74 (0, 0))
theorem Cw2.lt {W : World} {b : Nat} {x y : Value} (h : Cw2 W b x y) : b < W.heap.size := (Array.getElem?_eq_some_iff.1 h).1
theorem Cw2.c0 {W : World} {b : Nat} {x y : Value} (h : Cw2 W b x y) : W.cell? ⟨b, 0, none⟩ = some x := by simp [World.cell?, show W.heap[b]? = _ from h]
theorem Cw2.c1 {W : World} {b : Nat} {x y : Value} (h : Cw2 W b x y) : W.cell? ⟨b, 1, none⟩ = some y := by simp [World.cell?, show W.heap[b]? = _ from h]
theorem Cw2.fz {W : World} {b : Nat} {x y : Value} (h : Cw2 W b x y) (j : Nat) : W.frozen? ⟨b, j, none⟩ = false := by simp [World.frozen?, show W.heap[b]? = _ from h]
theorem Cw2.later {W W' : World} {b B : Nat} {x y : Value} (h : Cw2 W b x y) (k : Below B W W') (hb : b < B) : Cw2 W' b x y := (k.block _ hb).trans h
theorem Cw2.other {W : World} {b : Nat} {x y : Value} (h : Cw2 W b x y) {b' j : Nat} (hne : b ≠ b') (u : Value) : Cw2 (W.setCell ⟨b', j, none⟩ u) b x y := (Below.heap_setCell _ _ _ b (fun e => hne (by rw [e]))).trans h
theorem Cw2.seta {W : World} {b : Nat} {x y : Value} (h : Cw2 W b x y) (p : Value) : Cw2 (W.setCell ⟨b, 0, none⟩ p) b p y := by
  obtain ⟨hlt, hk⟩ := Array.getElem?_eq_some_iff.1 h
  show (W.heap.modify b _)[b]? = _
  rw [Array.getElem?_eq_getElem (by rw [Array.size_modify]; exact hlt), Array.getElem_modify_self, hk]
  rfl
theorem Cw2.setb {W : World} {b : Nat} {x y : Value} (h : Cw2 W b x y) (p : Value) : Cw2 (W.setCell ⟨b, 1, none⟩ p) b x p := by
  obtain ⟨hlt, hk⟩ := Array.getElem?_eq_some_iff.1 h
  show (W.heap.modify b _)[b]? = _
  rw [Array.getElem?_eq_getElem (by rw [Array.size_modify]; exact hlt), Array.getElem_modify_self, hk]
  rfl
theorem Cw2.new (W : World) (x y : Value) : Cw2 (W.alloc (.cells #[x, y] 74)) W.heap.size x y := World.alloc_heap_new W _
theorem slice_toB (x : ByteArray) (n : Nat) (h : n ≤ x.size) (W : World) :
    (Instr.slice 9 (.string x) none (some (.int .i64 (n : Int))) none).run Try.prog W = .ok (.string (x.extract 0 n)) W := by
  have := run_slice_string_h (P := Try.prog) W 9 x Try.underlying9 .i64 (n : Int) (by omega) (by omega)
  simpa using this
theorem ownI_lkB {w : World} {B : Nat} {v : Value} {L : List Int} (h : OwnI w B v L) : ∃ ad cap, v = .slice ad L.length cap ∧ ∀ j (hj : j < L.length), ∃ g, ad = some ⟨g, 0, none⟩ ∧ g < w.heap.size ∧ j < cap ∧ w.cell? ⟨g, j, none⟩ = some (.int .i64 (L[j]'hj)) := by
  rcases own_forms h with ⟨rfl, h0, _⟩ | ⟨g, cap, rfl, _, hg, hc, _, hk, _⟩
  · exact ⟨_, _, by rw [h0], fun j hj => by omega⟩
  · refine ⟨_, _, rfl, fun j hj => ⟨g, rfl, hg, by omega, ?_⟩⟩
    rw [hk j hj]
    simp [hj]

theorem ext00 (x : ByteArray) : x.extract 0 0 = ⟨#[]⟩ := by
  apply ByteArray.ext
  simp
set_option maxRecDepth 100000 in
set_option maxHeartbeats 4000000 in
theorem bestBorder1_any (b : Nat) (x : ByteArray) (w : World) (c1 : Boxed w b 9 (.string x)) (sx : x.size ≤ maxLen) :
    Calls Try.prog 73 #[.pointer (some ⟨b, 0, none⟩)] w fun e w' => EndC (bestR x) e ∧ Below w.heap.size w w' := by
  have k1 := c1.cell
  have l1 := c1.lt
  have W0 : ∃ W0 : World, W0 = w.alloc (.cells #[.string ⟨#[]⟩, .int .i64 0] 74) := ⟨_, rfl⟩
  have c1' : Boxed (w.alloc (.cells #[.string ⟨#[]⟩, .int .i64 0] 74)) b 9 (.string x) := c1.alloc _
  have l1' := c1'.lt
  have r0 := Cw2.new w (.string ⟨#[]⟩) (.int .i64 0)
  have rl0 := r0.lt
  have hB0 : Below w.heap.size w (w.alloc (.cells #[.string ⟨#[]⟩, .int .i64 0] 74)) := Below.new _ _
  clear W0
  by_cases h : IsW x
  · have H := Lib.hid h
    have hx := h.size
    have hbr := fun W => impl_BordersOf x W sx
    rw [bordersR_ok h] at hbr
    have hbr2 : ∀ W, Calls Try.prog 74 #[.string x] W (RetI (bordsR (bl x) x.size) 0 W) := hbr
    have hml : ∀ z ∈ bordsR (bl x) x.size, 0 ≤ z ∧ z < x.size := fun z hz => bordsR_mem hz
    have hll := bordsR_len (bl x) x.size
    have hall := bsF_all (x := x)
    have hr0 : (bbF x (x.size - 1)).2 = 0 → bestR x = (⟨#[]⟩, 0, 4) := bestR_none h
    have hr1 : ¬ (bbF x (x.size - 1)).2 = 0 → bestR x = (x.extract 0 (bbF x (x.size - 1)).1, ((bbF x (x.size - 1)).2 : Int), 0) := bestR_ok h
    rw [← hall] at hr0 hr1
    clear hbr h hall
    generalize bordsR (bl x) x.size = L at *
    have HBR := Lib.hid hbr2
    have HML := Lib.hid hml
    have HR0 := Lib.hid hr0
    have HR1 := Lib.hid hr1
    clear hbr2 hml hr0 hr1
    go_enter Try.func73, Try.ntmps73
    go_wp2_with (first | (go_at_call 53; refine (isWord_yes x _ H.out).mono ?_; rintro e w2 ⟨rfl, a1⟩; have c2 := (boxed_past c1' a1 l1'); have c3 := c2.alloc (.cells #[.string ⟨#[]⟩, .int .i64 0] 74); have k3 := c3.cell) | (go_at_call 46; with_reducible refine (refuse_yes _ _).mono ?_; rintro e w1 ⟨rfl, rfl⟩) | (go_at_call 74; refine (HBR.out _).mono ?_; rintro e w3 ⟨v3, rfl, o3, b3⟩; obtain ⟨ad, cap, rfl, look⟩ := ownI_lkB o3))
    have B1 : Below w.heap.size w w1 := hB0.then a1
    have hG1 := B1.size
    have hnG : w.heap.size < w1.heap.size := by have := a1.size; simp at this; omega
    have p1 := (Cw2.new w1 (.string ⟨#[]⟩) (.int .i64 0)).later b3 (by simp)
    have hz1 : (w1.alloc (.cells #[.string ⟨#[]⟩, .int .i64 0] 74)).heap.size = w1.heap.size + 1 := by simp
    have r1 := ((r0.later a1 rl0).later (Below.new w1 (.cells #[.string ⟨#[]⟩, .int .i64 0] 74)) hnG).later b3 (by rw [hz1]; omega)
    have c4 := boxed_past c3 b3 c3.lt
    have B3 : Below w.heap.size w w3 := (B1.alloc hG1 _).then b3
    rw [hz1] at o3
    generalize hG : w1.heap.size = G at *
    clear look b3 c3 k3 c2 r0 B1 hG1 a1 hz1
    go_loopw [19] (fun s19 wr => ∃ k : Nat, k ≤ L.length ∧ s19 = .int .i64 (k : Int) ∧ Cw2 wr G (.string (x.extract 0 (bsF x (L.take k)).1)) (.int .i64 ((bsF x (L.take k)).2 : Int)) ∧ Cw2 wr w.heap.size (.string ⟨#[]⟩) (.int .i64 0) ∧ Boxed wr b 9 (.string x) ∧ OwnI wr (G + 1) (.slice ad L.length cap) L ∧ Below w.heap.size w wr)
      (fun s19 _ => L.length - (intOf s19).toNat)
    case atStart => exact ⟨0, Nat.zero_le _, rfl, by rw [show bsF x (L.take 0) = (0, 0) from rfl, ext00]; exact p1, r1, c4, o3, B3⟩
    case round =>
      clear p1 r1 c4 o3 B3
      obtain ⟨k, hk, rfl, p1, r1, c4, o3, B3⟩ := hrel
      have hle := bsF_le (x := x) (L.take k)
      have q1 := p1.c0
      have q2 := p1.c1
      have k4 := c4.cell
      by_cases hp : k < L.length
      · obtain ⟨ad2, cap2, hv, look⟩ := ownI_lkB o3
        obtain ⟨g, hg1, hg2, hg3, hg4⟩ := look k hp
        cases hv
        subst hg1
        obtain ⟨z0, z1⟩ := HML.out _ (List.getElem_mem hp)
        obtain ⟨z, hz⟩ : ∃ z : Nat, L[k]'hp = (z : Int) := ⟨(L[k]'hp).toNat, by omega⟩
        rw [hz] at hg4 z0 z1
        have hsl := slice_toB x z (by omega)
        have ht60 : (x.extract 0 z).size ≤ 60 := by rw [ByteArray.size_extract]; omega
        have hic := fun W => callsIn_wide.1 (inner_covered_in x (x.extract 0 z) W hx ht60)
        have hco := fun W => count_any (msk x (x.extract 0 z)) x.size (cvB x (x.extract 0 z)) W (msk_lt _ _) hx (msk_bit _ _)
        have hcv : cnB (cvB x (x.extract 0 z)) x.size = cvN x (x.extract 0 z) := rfl
        rw [hcv] at hco
        have hcl := cvN_le x (x.extract 0 z)
        have HIC := Lib.hid hic
        have HCO := Lib.hid hco
        have hkn : (k : Int) < (L.length : Int) := by omega
        have hk0 : (0 : Int) ≤ (k : Int) := by omega
        have htk := List.take_succ_eq_append_getElem hp
        have hms : ¬ (bsF x (L.take k)).2 < cvN x (x.extract 0 z) → bsF x (L.take (k + 1)) = bsF x (L.take k) := fun h => by
          rw [htk, hz]; exact bsF_miss (by rw [Int.toNat_natCast]; exact h)
        have hht : (bsF x (L.take k)).2 < cvN x (x.extract 0 z) → bsF x (L.take (k + 1)) = (z, cvN x (x.extract 0 z)) := fun h => by
          rw [htk, hz]
          have := bsF_hit (x := x) (L := L.take k) (z := (z : Int)) (by rw [Int.toNat_natCast]; exact h)
          rw [Int.toNat_natCast] at this
          exact this
        have HMS := Lib.hid hms
        have HHT := Lib.hid hht
        clear hms hht htk hic hco hcv look hz z0 z1
        by_cases hlt : (bsF x (L.take k)).2 < cvN x (x.extract 0 z)
        · have e9 := Lib.hid (HHT.out hlt)
          have hgt : (cvN x (x.extract 0 z) : Int) > ((bsF x (L.take k)).2 : Int) := by omega
          have hdc : decide ((bsF x (L.take k)).2 < cvN x (x.extract 0 z)) = true := decide_eq_true hlt
          generalize cvN x (x.extract 0 z) = nn at *
          generalize (bsF x (L.take k)).2 = n0 at *
          generalize x.extract 0 (bsF x (L.take k)).1 = s0 at *
          generalize ht : x.extract 0 z = t at *
          have HT := Lib.hid ht
          clear ht
          go_wp2_with (first | (go_at_call 75; refine (HIC.out _).mono ?_; rintro e w5 ⟨rfl, b5⟩; have p2 := p1.later b5 p1.lt; have q3 := p2.c0; have q4 := p2.c1; have q5 := p2.fz 0; have q6 := p2.fz 1) | (go_at_call 76; refine (HCO.out _).mono ?_; rintro e w6 ⟨rfl, rfl⟩))
          go_roundw
          case rel =>
            have e8 := e9.out
            refine ⟨k + 1, by omega, by go_num, ?_, ?_, ?_, ?_, ?_⟩
            · rw [e8, HT.out]
              exact (p2.seta _).setb _
            · exact ((r1.later b5 r1.lt).other (by omega) _).other (by omega) _
            · exact (boxed_past c4 b5 c4.lt).kept (grown_set (grown_set (grown_refl w6 (some G)) 0 _) 1 _) (by intro e; injection e with e; omega)
            · exact World.ownsRow.kept (o3.below b5) (grown_set (grown_set (grown_refl w6 (some G)) 0 _) 1 _) (.inr (fun e => by have := ((o3.below b5).lt G e).1; omega))
            · exact ((B3.then b5).setCell (p := ⟨G, 0, none⟩) (Nat.le_of_lt hnG) _).setCell (p := ⟨G, 1, none⟩) (Nat.le_of_lt hnG) _
          case measure => simp [intOf]; omega
        · have e9 := Lib.hid (HMS.out hlt)
          have hgt : ¬ (cvN x (x.extract 0 z) : Int) > ((bsF x (L.take k)).2 : Int) := by omega
          have hdc : decide ((bsF x (L.take k)).2 < cvN x (x.extract 0 z)) = false := decide_eq_false hlt
          have p1' := Lib.hid p1
          generalize cvN x (x.extract 0 z) = nn at *
          generalize hn0 : (bsF x (L.take k)).2 = n0 at *
          generalize hs0 : x.extract 0 (bsF x (L.take k)).1 = s0 at *
          have HN0 := Lib.hid hn0
          have HS0 := Lib.hid hs0
          clear hn0 hs0
          generalize x.extract 0 z = t at *
          go_wp2_with (first | (go_at_call 75; refine (HIC.out _).mono ?_; rintro e w5 ⟨rfl, b5⟩; have p2 := p1.later b5 p1.lt; have q3 := p2.c0; have q4 := p2.c1) | (go_at_call 76; refine (HCO.out _).mono ?_; rintro e w6 ⟨rfl, rfl⟩))
          go_roundw
          case rel =>
            refine ⟨k + 1, by omega, by go_num, ?_, r1.later b5 r1.lt, boxed_past c4 b5 c4.lt, o3.below b5, B3.then b5⟩
            rw [e9.out, HN0.out, HS0.out]
            exact p2
          case measure => simp [intOf]; omega
      · obtain rfl : k = L.length := by omega
        have hkn : ¬ (L.length : Int) < (L.length : Int) := by omega
        rw [List.take_length] at p1 q1 q2 hle
        have r2 := r1.fz 0
        have r3 := r1.fz 1
        have r4 := r1.c0
        have r5 := r1.c1
        by_cases h0 : (bsF x L).2 = 0
        · have E0 := Lib.hid (HR0.out h0)
          rw [h0] at q2
          go_wp2_with (go_at_call 46; with_reducible refine (refuse_no _ _).mono ?_; rintro e w7 ⟨rfl, rfl⟩)
          exact ⟨rfl, by rw [E0.out]; exact .inr ⟨rfl, rfl, rfl⟩, B3⟩
        · have E0 := Lib.hid (HR1.out h0)
          have hgt : ((bsF x L).2 : Int) > 0 := by omega
          have hgt2 : 0 < (bsF x L).2 := by omega
          generalize x.extract 0 (bsF x L).1 = s1 at *
          generalize (bsF x L).2 = n1 at *
          go_wp2_with (go_at_call 46; with_reducible refine (refuse_yes _ _).mono ?_; rintro e w7 ⟨rfl, rfl⟩)
          have r9 := (r1.seta (.string s1)).setb (.int .i64 (n1 : Int))
          have e0 := r9.c0
          have e1 := r9.c1
          refine bodyPost_ret (v := .agg #[.string s1, .int .i64 (n1 : Int)]) ?_ rfl ⟨by rw [E0.out]; exact .inl ⟨rfl, rfl⟩, (B3.setCell (p := ⟨w.heap.size, 0, none⟩) (Nat.le_refl _) _).setCell (p := ⟨w.heap.size, 1, none⟩) (Nat.le_refl _) _⟩
          simp [results, Try.results73, go_sem, e0, e1]
  · rw [bestR_bad h]
    have H := Lib.hid h
    clear h
    go_enter Try.func73, Try.ntmps73
    go_wp2_with (first | (go_at_call 53; refine (isWord_not x _ sx H.out).mono ?_; rintro e w1 ⟨rfl, a1⟩) | (go_at_call 46; refine (refuse_no _ _).mono ?_; rintro e w2 ⟨rfl, rfl⟩))
    exact ⟨rfl, .inr ⟨rfl, rfl, rfl⟩, hB0.then a1⟩

theorem three_past {w W w1 : World} {p q : Addr} {a b : Value} (b1 : Below W.heap.size W w1) (h : W.cell? p = some a ∧ W.cell? q = some b ∧ Below w.heap.size w W) (hp : p.block < w.heap.size) (hq : q.block < w.heap.size) :
    w1.cell? p = some a ∧ w1.cell? q = some b ∧ Below w.heap.size w w1 := by
  have hs := h.2.2.size
  exact ⟨by rw [b1.cell (by omega)]; exact h.1, by rw [b1.cell (by omega)]; exact h.2.1, h.2.2.then b1⟩
theorem bestR_size (x : ByteArray) : (bestR x).1.size ≤ 60 := by
  unfold bestR
  split
  · exact Nat.zero_le _
  · rename_i h
    have h := Classical.not_not.1 h
    split
    · exact Nat.zero_le _
    · show (x.extract 0 _).size ≤ 60
      rw [ByteArray.size_extract]
      have := h.size
      omega

set_option maxRecDepth 100000 in
set_option maxHeartbeats 2000000 in
theorem impl_BestBorder (x : ByteArray) (w : World) (sx : x.size ≤ maxLen) :
    Calls Try.prog 37 #[.string x] w fun e w' => e = .returned (.tuple #[.string (bestR x).1, .int .i64 (bestR x).2.1, .int .i64 (bestR x).2.2]) ∧ Below w.heap.size w w' := by
  have hmf : ∀ (fn : Fn) (first cap : Array Value) (w : World), (Instr.makeFunc fn first cap).run Try.prog w = .ok (.func fn first cap) w := fun _ _ _ _ => rfl
  have hmo : Try.prog.follows .mixedOrders = true := by kernel_rfl
  have c1 : Boxed (doorW (w.alloc (.cells #[.string x] 9))) w.heap.size 9 (.string x) := ((Boxed.new w _ _).alloc _).alloc _
  have hB : Below w.heap.size w (w.alloc (.cells #[.string x] 9)) := Below.new _ _
  have hd := door_count 73 #[.pointer (some ⟨w.heap.size, 0, none⟩)] (w.alloc (.cells #[.string x] 9)) (bestR x) (enters_of Try.func73 (by kernel_rfl) rfl) (bestBorder1_any w.heap.size x _ c1 sx)
  have hs60 := bestR_size x
  generalize bestR x = r at *
  obtain ⟨s, n, c⟩ := r
  have HD := Lib.hid hd
  clear hd c1
  go_enter Try.func37, Try.ntmps37
  go_wp2_with (go_at_call 72; refine HD.out.mono ?_; rintro e w1 ⟨rfl, b1⟩)
  have p9 := Cw2.new w1 (.string s) (.int .i64 n)
  have B9 : Below w.heap.size w (w1.alloc (.cells #[.string s, .int .i64 n] 74)) := (hB.then b1).alloc (hB.then b1).size _
  generalize w1.alloc (.cells #[.string s, .int .i64 n] 74) = W9 at *
  have q0 := p9.c0
  have q1 := p9.c1
  have ql := p9.lt
  generalize w1.heap.size = G at *
  go_region_held3 (fun w' => w'.cell? ⟨G, 0, none⟩ = some (.string s) ∧ w'.cell? ⟨G, 1, none⟩ = some (.int .i64 n) ∧ Below W9.heap.size W9 w') (first | assumption | exact ⟨q0, q1, Below.refl _ _⟩ | exact ⟨q0, q1, (Below.refl _ _).drew⟩ | (refine ⟨?_, ?_, ?_⟩ <;> first | assumption | exact Below.drew (by assumption) | go_keep)) (first | (go_at_call 77; refine (strings_Clone _ _ (by omega)).mono ?_; rintro e w5 ⟨rfl, b5⟩; have kp := three_past b5 (by first | assumption | exact ⟨by assumption, by assumption, by assumption⟩ | exact ⟨q0, q1, Below.refl _ _⟩ | exact ⟨q0, q1, (Below.refl _ _).drew⟩) ql ql))
  all_goals (try go_wp2_with fail)
  all_goals (
    obtain ⟨z0, z1, z2⟩ := (by assumption : (_ ∧ _ ∧ Below W9.heap.size W9 _))
    first
      | (refine bodyPost_ret (v := .tuple #[.string s, .int .i64 n, .int .i64 c]) ?_ rfl ⟨rfl, B9.then z2⟩; simp [results, Try.results37, go_sem]; done)
      | (trace_state; sorry))

end Go.Proofs.Ytkemdiefoohdjaa
