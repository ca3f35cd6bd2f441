/- GrowByCover: the program. -/
import Derived.Test.YtfipbnognjepkaaDoorBbPlain
import Derived.Test.YtfipbnognjepkaaDoorBorders
import Derived.Test.YtfipbnognjepkaaDoorDoorT
import Derived.Deep.RegionHeld3
import Derived.Handy
namespace Go.Proofs.YtfipbnognjepkaaDoor
set_option linter.unusedVariables false
set_option linter.unusedSimpArgs false
open Go.RowKit

def Gw2 (W : World) (b : Nat) (x y : Value) : Prop := W.heap[b]? = some (.cells #[x, y] 129 (0, 0))
theorem Gw2.lt {W : World} {b : Nat} {x y : Value} (h : Gw2 W b x y) : b < W.heap.size := (Array.getElem?_eq_some_iff.1 h).1
theorem Gw2.c0 {W : World} {b : Nat} {x y : Value} (h : Gw2 W b x y) : W.cell? ⟨b, 0, none⟩ = some x := by simp [World.cell?, show W.heap[b]? = _ from h]
theorem Gw2.c1 {W : World} {b : Nat} {x y : Value} (h : Gw2 W b x y) : W.cell? ⟨b, 1, none⟩ = some y := by simp [World.cell?, show W.heap[b]? = _ from h]
theorem Gw2.later {W W' : World} {b B : Nat} {x y : Value} (h : Gw2 W b x y) (k : Below B W W') (hb : b < B) : Gw2 W' b x y := (k.block _ hb).trans h
theorem Gw2.new (W : World) (x y : Value) : Gw2 (W.alloc (.cells #[x, y] 129)) W.heap.size x y := World.alloc_heap_new W _
theorem ownI_lkG {w : World} {B : Nat} {v : Value} {L : List Int} (h : OwnI w B v L) : ∃ ad cap, v = .slice ad L.length cap ∧ ∀ j (hj : j < L.length), ∃ g, ad = some ⟨g, 0, none⟩ ∧ g < w.heap.size ∧ j < cap ∧ w.cell? ⟨g, j, none⟩ = some (.int .i64 (L[j]'hj)) := by
  rcases own_forms h with ⟨rfl, h0, _⟩ | ⟨g, cap, rfl, _, hg, hc, _, hk, _⟩
  · exact ⟨_, _, by rw [h0], fun j hj => by omega⟩
  · refine ⟨_, _, rfl, fun j hj => ⟨g, rfl, hg, by omega, ?_⟩⟩
    rw [hk j hj]
    simp [hj]
theorem nil_yesW {x : ByteArray} (h : x.size = 0) : x.toList.isEmpty = true := by
  have : x = ByteArray.empty := by
    cases x with | mk d => simp only [ByteArray.size] at h; rw [Array.eq_empty_of_size_eq_zero h]; rfl
  rw [this, ByteArray.toList_eq]; rfl
theorem nil_noW {x : ByteArray} (h : ¬ x.size = 0) : x.toList.isEmpty = false := by
  rw [ByteArray.toList_eq, List.isEmpty_eq_false_iff]
  intro e
  apply h
  show x.data.size = 0
  rw [← Array.length_toList, e]
  rfl
/-- Is each number of the list in the word, and the word not empty? -/
def inR (u : ByteArray) (L : List Int) : Bool := decide ((∀ z ∈ L, 0 ≤ z ∧ z < u.size) ∧ ¬ u.size = 0)

set_option maxRecDepth 100000 in
set_option maxHeartbeats 2000000 in
theorem inRange_any (B : Nat) (v : Value) (L : List Int) (u : ByteArray) (w : World) (h : OwnI w B v L) (hl : L.length ≤ 1048576) (su : u.size ≤ 60) :
    Calls Tryd.prog 164 #[.agg #[.string u, v]] w fun e w' => e = .returned (.bool (inR u L)) ∧ Below w.heap.size w w' := by
  obtain ⟨ad, cap, rfl, look⟩ := ownI_lkG h
  have LK := Lib.hid look
  have g0 := Gw2.new w (.string u) (.slice ad L.length cap)
  have B0 : Below w.heap.size w (w.alloc (.cells #[.string u, .slice ad L.length cap] 129)) := Below.new _ _
  have q0 := g0.c0
  have q1 := g0.c1
  clear look h
  go_enter Tryd.func164, Tryd.ntmps164
  go_wp2_with fail
  generalize hW : w.alloc (.cells #[.string u, .slice ad L.length cap] 129) = W at *
  go_loopw [8] (fun s8 wr => wr = W ∧ ∃ k : Nat, k ≤ L.length ∧ s8 = .int .i64 (k : Int) ∧ Hid (∀ i (hi : i < L.length), i < k → 0 ≤ L[i]'hi ∧ L[i]'hi < u.size))
    (fun s8 _ => L.length - (intOf s8).toNat)
  case atStart => exact ⟨rfl, 0, Nat.zero_le _, rfl, Lib.hid (fun i _ hi => by omega)⟩
  case round =>
    obtain ⟨rfl, k, hk, rfl, hi⟩ := hrel
    by_cases hp : k < L.length
    · obtain ⟨g, rfl, hg2, hg3, hg4⟩ := LK.out k hp
      have kc : wr.cell? ⟨g, k, none⟩ = some (.int .i64 (L[k]'hp)) := by rw [B0.cell hg2]; exact hg4
      have hkn : (k : Int) < (L.length : Int) := by omega
      have hk0 : (0 : Int) ≤ (k : Int) := by omega
      by_cases hz : 0 ≤ L[k]'hp ∧ L[k]'hp < u.size
      · have hi2 : Hid (∀ i (hi : i < L.length), i < k + 1 → 0 ≤ L[i]'hi ∧ L[i]'hi < u.size) := Lib.hid fun i hi1 hi3 => by
          by_cases e : i = k
          · subst e; exact hz
          · exact hi.out i hi1 (by omega)
        have z1 : ¬ L[k]'hp < 0 := by omega
        have z2 : ¬ (u.size : Int) ≤ L[k]'hp := by omega
        have z3 : ¬ L[k]'hp ≥ (u.size : Int) := by omega
        clear hg4 hz hi
        generalize L[k]'hp = z at *
        go_wp2_with fail
        go_roundw
        case rel => exact ⟨trivial, k + 1, by omega, by go_num, hi2⟩
        case measure => simp [intOf]; omega
      · have hr : inR u L = false := decide_eq_false (fun e => hz (e.1 _ (List.getElem_mem hp)))
        have z1 : L[k]'hp < 0 ∨ (¬ L[k]'hp < 0 ∧ (u.size : Int) ≤ L[k]'hp) := by omega
        clear hg4 hz hi
        generalize L[k]'hp = z at *
        rcases z1 with z1 | ⟨z1, z2⟩
        · go_wp2_with fail
          go_ret
          exact ⟨by first | rfl | (rw [hr]; rfl), B0⟩
        · have z3 : z ≥ (u.size : Int) := z2
          go_wp2_with fail
          go_ret
          exact ⟨by first | rfl | (rw [hr]; rfl), B0⟩
    · obtain rfl : k = L.length := by omega
      have hkn : ¬ (L.length : Int) < (L.length : Int) := by omega
      have hall : ∀ z ∈ L, 0 ≤ z ∧ z < u.size := fun z hz => by
        obtain ⟨i, hi1, rfl⟩ := List.getElem_of_mem hz
        exact hi.out i hi1 hi1
      by_cases h0 : u.size = 0
      · have hr : inR u L = false := decide_eq_false (fun e => e.2 h0)
        have hq := nil_yesW h0
        clear hi hall
        go_wp2_with fail
        go_ret
        exact ⟨by first | rfl | (rw [hr]; rfl), B0⟩
      · have hr : inR u L = true := decide_eq_true ⟨hall, h0⟩
        have hq := nil_noW h0
        clear hi hall
        go_wp2_with fail
        go_ret
        exact ⟨by first | rfl | (rw [hr]; rfl), B0⟩

/-- Does the word begin with its last letters, for each number of the list? -/
def fitR (u : ByteArray) (L : List Int) : Bool := decide (∀ z ∈ L, bdT u z.toNat = true)
set_option maxRecDepth 100000 in
set_option maxHeartbeats 2000000 in
theorem fits_any (B : Nat) (v : Value) (L : List Int) (u : ByteArray) (w : World) (h : OwnI w B v L) (hl : L.length ≤ 1048576) (su : u.size ≤ 60) (hr : ∀ z ∈ L, 0 ≤ z ∧ z < u.size) :
    Calls Tryd.prog 165 #[.agg #[.string u, v]] w fun e w' => e = .returned (.bool (fitR u L)) ∧ Below w.heap.size w w' := by
  obtain ⟨ad, cap, rfl, look⟩ := ownI_lkG h
  have LK := Lib.hid look
  have HR := Lib.hid hr
  have g0 := Gw2.new w (.string u) (.slice ad L.length cap)
  have B0 : Below w.heap.size w (w.alloc (.cells #[.string u, .slice ad L.length cap] 129)) := Below.new _ _
  have q0 := g0.c0
  have q1 := g0.c1
  clear look h hr
  go_enter Tryd.func165, Tryd.ntmps165
  go_wp2_with fail
  generalize hW : w.alloc (.cells #[.string u, .slice ad L.length cap] 129) = W at *
  go_loopw [8] (fun s8 wr => Below W.heap.size W wr ∧ ∃ k : Nat, k ≤ L.length ∧ s8 = .int .i64 (k : Int) ∧ Hid (∀ i (hi : i < L.length), i < k → bdT u (L[i]'hi).toNat = true))
    (fun s8 _ => L.length - (intOf s8).toNat)
  case atStart => exact ⟨Below.refl _ _, 0, Nat.zero_le _, rfl, Lib.hid (fun i _ hi => by omega)⟩
  case round =>
    obtain ⟨hB, k, hk, rfl, hi⟩ := hrel
    have g1 := g0.later hB g0.lt
    have q2 := g1.c0
    have q3 := g1.c1
    by_cases hp : k < L.length
    · obtain ⟨g, rfl, hg2, hg3, hg4⟩ := LK.out k hp
      have hgW : g < W.heap.size := by have := B0.size; omega
      have kc : wr.cell? ⟨g, k, none⟩ = some (.int .i64 (L[k]'hp)) := by rw [hB.cell hgW, B0.cell hg2]; exact hg4
      have hkn : (k : Int) < (L.length : Int) := by omega
      have hk0 : (0 : Int) ≤ (k : Int) := by omega
      obtain ⟨z0, z1⟩ := HR.out _ (List.getElem_mem hp)
      obtain ⟨z, hz⟩ : ∃ z : Nat, L[k]'hp = (z : Int) := ⟨(L[k]'hp).toNat, by omega⟩
      have hbb := fun W => hasBorder_any u z W su (by omega)
      have hbd := bdT_per (x := u) (m := z) (by omega)
      rw [← hbd] at hbb
      have HB := Lib.hid hbb
      have hzz : (L[k]'hp).toNat = z := by omega
      rw [hz] at kc
      clear hg4 hbb hbd
      cases hb : bdT u z with
      | true =>
        have hi2 : Hid (∀ i (hi : i < L.length), i < k + 1 → bdT u (L[i]'hi).toNat = true) := Lib.hid fun i hi1 hi3 => by
          by_cases e : i = k
          · subst e; rw [hzz]; exact hb
          · exact hi.out i hi1 (by omega)
        rw [hb] at HB
        clear hi hb hz hzz z0 z1
        go_wp2_with (go_at_call 112; refine (HB.out _).mono ?_; rintro e w5 ⟨rfl, b5⟩)
        go_roundw
        case rel => exact ⟨hB.then b5, k + 1, by omega, by go_num, hi2⟩
        case measure => simp [intOf]; omega
      | false =>
        have hr : fitR u L = false := decide_eq_false (fun e => by have := e _ (List.getElem_mem hp); rw [hzz, hb] at this; cases this)
        rw [hb] at HB
        clear hi hb hz hzz z0 z1
        go_wp2_with (go_at_call 112; refine (HB.out _).mono ?_; rintro e w5 ⟨rfl, b5⟩)
        go_ret
        exact ⟨by first | rfl | (rw [hr]; rfl), (B0.then hB).then b5⟩
    · obtain rfl : k = L.length := by omega
      have hkn : ¬ (L.length : Int) < (L.length : Int) := by omega
      have hr : fitR u L = true := decide_eq_true fun z hz => by
        obtain ⟨i, hi1, rfl⟩ := List.getElem_of_mem hz
        exact hi.out i hi1 hi1
      clear hi
      go_wp2_with fail
      go_ret
      exact ⟨by first | rfl | (rw [hr]; rfl), B0.then hB⟩

theorem growN_take_le {n : Nat} {L : List Int} (h : ∀ z ∈ L, 0 ≤ z ∧ z < n) (k : Nat) : growN n (L.take k) ≤ growN n L := by
  have := growN_mono (n := n) (L.take k) (L.drop k) (fun z hz => h z (List.mem_of_mem_drop hz))
  rwa [List.take_append_drop] at this
theorem growN_bd {n : Nat} : ∀ (L : List Int), (∀ z ∈ L, 0 ≤ z ∧ z < n) → growN n L ≤ (n : Int) + L.length * n ∧ 0 ≤ growN n L
  | [], _ => by simp [growN]
  | a :: L, h => by
    have ih := growN_bd L (fun z hz => h z (List.mem_cons_of_mem _ hz))
    have h1 := h a (List.mem_cons_self)
    unfold growN at ih ⊢
    simp only [List.map_cons, List.sum_cons, List.length_cons]
    have e : ((L.length + 1 : Nat) : Int) * (n : Int) = (L.length : Int) * n + n := by push_cast; rw [Int.add_mul, Int.one_mul]
    omega


/-- Has the grown word at most so many letters? -/
def roomR (u : ByteArray) (L : List Int) : Bool := decide (growN u.size L ≤ 60)
set_option maxRecDepth 100000 in
set_option maxHeartbeats 2000000 in
theorem room_any (B : Nat) (v : Value) (L : List Int) (u : ByteArray) (w : World) (h : OwnI w B v L) (hl : L.length ≤ 1048576) (su : u.size ≤ 60) (hr : ∀ z ∈ L, 0 ≤ z ∧ z < u.size) :
    Calls Tryd.prog 166 #[.agg #[.string u, v]] w fun e w' => e = .returned (.bool (roomR u L)) ∧ Below w.heap.size w w' := by
  obtain ⟨ad, cap, rfl, look⟩ := ownI_lkG h
  have LK := Lib.hid look
  have HR := Lib.hid hr
  have HG : ∀ k, k ≤ L.length → 0 ≤ growN u.size (L.take k) ∧ growN u.size (L.take k) ≤ 100000000 := fun k hk => by
    obtain ⟨h1, h2⟩ := growN_bd (n := u.size) (L.take k) (fun z hz => hr z (List.mem_of_mem_take hz))
    have e : (L.take k).length = k := by rw [List.length_take]; omega
    rw [e] at h1
    have : (k : Int) * (u.size : Int) ≤ 1048576 * 60 := Int.mul_le_mul (by omega) (by omega) (by omega) (by omega)
    exact ⟨h2, by omega⟩
  have HGG := Lib.hid HG
  have g0 := Gw2.new w (.string u) (.slice ad L.length cap)
  have B0 : Below w.heap.size w (w.alloc (.cells #[.string u, .slice ad L.length cap] 129)) := Below.new _ _
  have q0 := g0.c0
  have q1 := g0.c1
  clear look h hr HG
  go_enter Tryd.func166, Tryd.ntmps166
  go_wp2_with fail
  generalize hW : w.alloc (.cells #[.string u, .slice ad L.length cap] 129) = W at *
  go_loopw [3, 12] (fun s3 s12 wr => wr = W ∧ ∃ k : Nat, k ≤ L.length ∧ s12 = .int .i64 (k : Int) ∧ s3 = .int .i64 (growN u.size (L.take k)))
    (fun _ s12 _ => L.length - (intOf s12).toNat)
  case atStart => exact ⟨rfl, 0, Nat.zero_le _, rfl, by simp [growN]⟩
  case round =>
    obtain ⟨rfl, k, hk, rfl, rfl⟩ := hrel
    obtain ⟨m0, m1⟩ := HGG.out k hk
    by_cases hp : k < L.length
    · obtain ⟨g, rfl, hg2, hg3, hg4⟩ := LK.out k hp
      have kc : wr.cell? ⟨g, k, none⟩ = some (.int .i64 (L[k]'hp)) := by rw [B0.cell hg2]; exact hg4
      have hkn : (k : Int) < (L.length : Int) := by omega
      have hk0 : (0 : Int) ≤ (k : Int) := by omega
      obtain ⟨z0, z1⟩ := HR.out _ (List.getElem_mem hp)
      have hs : growN u.size (L.take (k + 1)) = growN u.size (L.take k) + ((u.size : Int) - L[k]'hp) := by
        rw [List.take_succ_eq_append_getElem hp, growN_snoc]
      obtain ⟨m2, m3⟩ := HGG.out (k + 1) (by omega)
      rw [hs] at m2 m3
      have HS := Lib.hid hs
      clear hg4 hs
      generalize L[k]'hp = z at *
      generalize growN u.size (L.take k) = G at *
      go_wp2_with fail
      go_roundw
      case rel => exact ⟨trivial, k + 1, by omega, by go_num, by rw [HS.out]⟩
      case measure => simp [intOf]; omega
    · obtain rfl : k = L.length := by omega
      have hkn : ¬ (L.length : Int) < (L.length : Int) := by omega
      have e0 : L.take L.length = L := List.take_length
      rw [e0] at m0 m1 ⊢
      by_cases hc : growN u.size L ≤ 60
      · have hr : roomR u L = true := decide_eq_true hc
        generalize growN u.size L = G at *
        go_wp2_with fail
        go_ret
        exact ⟨by first | rfl | (rw [hr]; rfl), B0⟩
      · have hr : roomR u L = false := decide_eq_false hc
        generalize growN u.size L = G at *
        go_wp2_with fail
        go_ret
        exact ⟨by first | rfl | (rw [hr]; rfl), B0⟩

end Go.Proofs.YtfipbnognjepkaaDoor
