/- GrowByCover: the program, through its door. -/
import Derived.Test.YtfipbnognjepkaaDoorGrW
namespace Go.Proofs.YtfipbnognjepkaaDoor
set_option linter.unusedVariables false
set_option linter.unusedSimpArgs false
open Go.RowKit

theorem growCR_right {u : ByteArray} {L : List Int} (h : IsW u) (k : wrongC u L = 0) : growCR u L = (growT u L, 0) ∧ (∀ z ∈ L, 0 ≤ z ∧ z < u.size) ∧ growN u.size L ≤ 60 := by
  cases h1 : inR u L with
  | false => rw [wrongC_in h1] at k; omega
  | true =>
    cases h2 : fitR u L with
    | false => rw [wrongC_fit h1 h2] at k; omega
    | true =>
      cases h3 : roomR u L with
      | false => rw [wrongC_room h1 h2 h3] at k; omega
      | true =>
        obtain ⟨r1, r2⟩ := inR_yes h1
        have r3 : growN u.size L ≤ 60 := of_decide_eq_true h3
        exact ⟨growCR_ok h r2 r1 (of_decide_eq_true h2) (by omega), r1, r3⟩
theorem growCR_wrong {u : ByteArray} {L : List Int} (h : IsW u) (k : ¬ wrongC u L = 0) : growCR u L = (⟨#[]⟩, wrongC u L) := by
  cases h1 : inR u L with
  | false =>
    rw [wrongC_in h1]
    refine growCR_out h ?_
    have := of_decide_eq_false h1
    by_cases h0 : u.size = 0
    · exact .inl h0
    · exact .inr (fun e => this ⟨e, h0⟩)
  | true =>
    obtain ⟨r1, r2⟩ := inR_yes h1
    cases h2 : fitR u L with
    | false => rw [wrongC_fit h1 h2]; exact growCR_none h r2 r1 (of_decide_eq_false h2)
    | true =>
      cases h3 : roomR u L with
      | false =>
        rw [wrongC_room h1 h2 h3]
        have := of_decide_eq_false h3
        exact growCR_long h r2 r1 (of_decide_eq_true h2) (by omega)
      | true => exact absurd (wrongC_none h1 h2 h3) k

set_option maxRecDepth 100000 in
set_option maxHeartbeats 2000000 in
theorem grow1_any (b1 b2 B : Nat) (u : ByteArray) (v : Value) (L : List Int) (w : World) (c1 : Boxed w b1 9 (.string u)) (c2 : Boxed w b2 59 v) (h : OwnI w B v L) (hl : L.length ≤ 1048576) (su : u.size ≤ maxLen) :
    Calls Tryd.prog 117 #[.pointer (some ⟨b1, 0, none⟩), .pointer (some ⟨b2, 0, none⟩)] w fun e w' => EndT (growCR u L) e ∧ Below w.heap.size w w' := by
  have k1 := c1.cell
  have k2 := c2.cell
  have l1 := c1.lt
  have l2 := c2.lt
  by_cases hw : IsW u
  · have H := Lib.hid hw
    have zu := hw.size
    have HR := Lib.hid (fun k => growCR_right (L := L) hw k)
    have HN := Lib.hid (fun k => growCR_wrong (L := L) hw k)
    obtain ⟨ad, cap, rfl, look⟩ := ownI_lkG h
    clear hw look
    go_enter Tryd.func117, Tryd.ntmps117
    go_wp2_with (first | (go_at_call 61; refine (isWord_yes u _ H.out).mono ?_; rintro e w2 ⟨rfl, a1⟩; have k3 := (boxed_past c1 a1 l1).cell; have k4 := (boxed_past c2 a1 l2).cell) | (go_at_call 70; with_reducible refine (refuse_yes _ _).mono ?_; rintro e w1 ⟨rfl, rfl⟩))
    have g0 := Gw2.new w1 (.string u) (.slice ad L.length cap)
    have o1 : OwnI (w1.alloc (.cells #[.string u, .slice ad L.length cap] 129)) B (.slice ad L.length cap) L := OwnI.below (OwnI.below h a1) (Below.new _ _)
    have B0 : Below w1.heap.size w1 (w1.alloc (.cells #[.string u, .slice ad L.length cap] 129)) := Below.new _ _
    generalize hW : w1.alloc (.cells #[.string u, .slice ad L.length cap] 129) = W at *
    refine (refuseWrong_any B _ L u W o1 hl zu).mono ?_
    rintro e w3 ⟨⟨hc, rfl⟩ | ⟨hc, rfl⟩, b3⟩
    · have g3 := g0.later b3 g0.lt
      have q0 := g3.c0
      have q1 := g3.c1
      obtain ⟨e1, e2, e3⟩ := HR.out hc
      have E1 := Lib.hid e1
      clear HR HN e1
      go_wp2_with (go_at_call 119; refine (grown_any B _ L u _ (OwnI.below o1 b3) hl zu e2 e3).mono ?_; rintro e w4 ⟨rfl, b4⟩)
      go_ret
      rw [E1.out]
      exact ⟨.inl ⟨rfl, rfl⟩, ((a1.then B0).then b3).then b4⟩
    · have E1 := Lib.hid (HN.out hc)
      clear HR HN
      go_wp2_with fail
      rw [E1.out]
      exact ⟨rfl, .inr ⟨rfl, rfl⟩, (a1.then B0).then b3⟩
  · rw [growCR_bad hw]
    have H := Lib.hid hw
    clear hw
    go_enter Tryd.func117, Tryd.ntmps117
    go_wp2_with (first | (go_at_call 61; refine (isWord_not u _ su H.out).mono ?_; rintro e w1 ⟨rfl, a1⟩) | (go_at_call 70; refine (refuse_no _ _).mono ?_; rintro e w2 ⟨rfl, rfl⟩))
    exact ⟨rfl, .inr ⟨rfl, rfl⟩, a1⟩

set_option maxRecDepth 100000 in
set_option maxHeartbeats 1000000 in
theorem impl_GrowByCover (u : ByteArray) (B : Nat) (v : Value) (L : List Int) (w : World) (su : u.size ≤ maxLen) (h : OwnI w B v L) (hl : L.length ≤ 1048576) :
    Calls Tryd.prog 51 #[.string u, v] w fun e w' => e = .returned (.tuple #[.string (growCR u L).1, .int .i64 (growCR u L).2]) ∧ Below w.heap.size w w' := by
  have hmf : ∀ (fn : Fn) (first cap : Array Value) (w : World), (Instr.makeFunc fn first cap).run Tryd.prog w = .ok (.func fn first cap) w := fun _ _ _ _ => rfl
  have c1 : Boxed (((w.alloc (.cells #[.string u] 9)).alloc (.cells #[v] 59)).alloc (.cells #[.int .i64 0] 2)) w.heap.size 9 (.string u) := ((Boxed.new w _ _).alloc _).alloc _
  have c2 : Boxed (((w.alloc (.cells #[.string u] 9)).alloc (.cells #[v] 59)).alloc (.cells #[.int .i64 0] 2)) (w.heap.size + 1) 59 v := by
    have := Boxed.new (w.alloc (.cells #[.string u] 9)) 59 v
    rw [World.size_alloc] at this
    exact this.alloc _
  have hB : Below w.heap.size w ((w.alloc (.cells #[.string u] 9)).alloc (.cells #[v] 59)) := (Below.new _ _).alloc (by simp) _
  have hO : OwnI (((w.alloc (.cells #[.string u] 9)).alloc (.cells #[v] 59)).alloc (.cells #[.int .i64 0] 2)) B v L := OwnI.below h (hB.alloc (by simp; omega) _)
  have HO := Lib.hid hO
  obtain ⟨ad, cap, rfl, look⟩ := ownI_lkG h
  clear look hO h
  go_enter Tryd.func51, Tryd.ntmps51
  go_wp2_with (go_at_call 99; refine (door_text 117 _ _ (growCR u L) (enters_of Tryd.func117 (by kernel_rfl) rfl) (grow1_any _ _ B u _ L _ c1 c2 HO.out hl su)).mono ?_; rintro e w1 ⟨rfl, b1⟩)
  go_ret2
  exact ⟨rfl, hB.trans (b1.mono (by simp; omega))⟩

end Go.Proofs.YtfipbnognjepkaaDoor
