/- Double words: the program. -/
import Derived.Test.YthjbdcoklgnnlabDwPlain
import Derived.Test.YthjbdcoklgnnlabDLen
import Derived.Test.YthjbdcoklgnnlabWordOf
import Derived.Test.YthjbdcoklgnnlabInts
import Derived.Deep.LoopGhost
import Derived.IntWalk
import Derived.BigQuiet
import Derived.StillTailTactics
namespace Go.Proofs.Ythjbdcoklgnnlab
set_option linter.unusedVariables false
set_option linter.unusedSimpArgs false
open Go.RowKit

/-- A table of numbers at the head of a block of its own. -/
abbrev TabI (W : World) (B g n : Nat) (G : Nat → Nat) : Prop := W.ownsRow B 2 1 (.slice (some ⟨g, 0, none⟩) n n) n ((fl n G).map (Value.int .i64))
theorem TabI.at' {W : World} {B g n : Nat} {G : Nat → Nat} (h : TabI W B g n G) {j : Nat} (hj : j < n) : W.cell? ⟨g, j, none⟩ = some (.int .i64 (G j : Int)) := by
  rw [h.cellAt j (by omega), List.getElem?_map, List.getElem?_eq_getElem (by rw [fl_len]; exact hj), fl_get]
  rfl
theorem TabI.congr {W : World} {B g n : Nat} {G H : Nat → Nat} (h : TabI W B g n G) (e : ∀ j, j < n → G j = H j) : TabI W B g n H := by
  unfold TabI
  rw [← fl_congr e]
  exact h
theorem fl_set {n : Nat} {G H : Nat → Nat} {k v : Nat} (h : ∀ j, j < n → H j = if j = k then v else G j) : ((fl n G).map (Value.int .i64)).set k (.int .i64 (v : Int)) = (fl n H).map (Value.int .i64) := by
  apply List.ext_getElem
  · simp [fl_len]
  · intro j h1 h2
    rw [List.getElem_set]
    simp only [List.getElem_map, fl_get]
    rw [h j (by simpa [fl_len] using h2)]
    by_cases e : k = j
    · subst e; rw [if_pos rfl, if_pos rfl]
    · rw [if_neg e, if_neg (fun e2 => e e2.symm)]
theorem TabI.put {W : World} {B g n : Nat} {G H : Nat → Nat} (h : TabI W B g n G) {k v : Nat} (e : ∀ j, j < n → H j = if j = k then v else G j) : TabI (W.setCell ⟨g, k, none⟩ (.int .i64 (v : Int))) B g n H := by
  have := (h.stored k (.int .i64 (v : Int))).1
  rwa [fl_set e] at this
/-- The places ahead are joined. -/
def jnK (F : Nat → Nat) (x y k j : Nat) : Nat := if j < k then jn F x y j else F j

set_option maxRecDepth 100000 in
set_option maxHeartbeats 1000000 in
theorem join_any (B g n : Nat) (F : Nat → Nat) (x y : Nat) (w : World) (hn : n ≤ 60) (hx : x ≤ 60) (hy : y ≤ 60) (hF : ∀ j, j < n → F j ≤ 60) (h : TabI w B g n F) :
    Calls Try.prog 149 #[.slice (some ⟨g, 0, none⟩) n n, .int .i64 (x : Int), .int .i64 (y : Int)] w fun e w' => e = .returned (.tuple #[]) ∧ TabI w' B g n (jn F x y) ∧ w.grownBy w' (some g) := by
  have H := Lib.hid h
  have HFB := Lib.hid hF
  clear h hF
  go_enter Try.func149, Try.ntmps149
  go_wp2
  go_loopg [10] n (fun gg s10 wr => ∃ k : Nat, k + gg = n ∧ s10 = .int .i64 (k : Int) ∧ TabI wr B g n (jnK F x y k) ∧ w.grownBy wr (some g))
  case atStart => exact ⟨0, by omega, rfl, H.out.congr fun j _ => by unfold jnK; rw [if_neg (by omega)], grown_refl _ _⟩
  case round =>
    obtain ⟨k, hk, rfl, hT, hG⟩ := hrel
    by_cases hp : k < n
    · obtain ⟨gq, rfl⟩ : ∃ q, gk = q + 1 := ⟨gk - 1, by omega⟩
      have hpi : (k : Int) < (n : Int) := by omega
      have c := hT.at' hp
      rw [show jnK F x y k k = F k by unfold jnK; rw [if_neg (by omega)]] at c
      have fz : wr.frozen? ⟨g, k, none⟩ = false := hT.frozenAt k
      have hfk := HFB.out k hp
      have HK := Lib.hid hk
      by_cases hin : F k = x ∨ F k = y
      · obtain ⟨mn, hmn⟩ : ∃ q, min x y = q := ⟨_, rfl⟩
        have hT2 : TabI (wr.setCell ⟨g, k, none⟩ (.int .i64 (mn : Int))) B g n (jnK F x y (k + 1)) := hT.put fun j hj => by
          unfold jnK
          by_cases e : j = k
          · subst e; rw [if_pos (by omega), if_pos rfl, jn_in hin]; exact hmn
          · rw [if_neg e]
            by_cases e2 : j < k
            · rw [if_pos e2, if_pos (by omega)]
            · rw [if_neg e2, if_neg (by omega)]
        have HT2 := Lib.hid hT2
        have HG2 := Lib.hid (grown_set hG k (.int .i64 (mn : Int)))
        have HMN := Lib.hid hmn
        clear hT2 hT hG hmn hk
        generalize F k = f at *
        have HX : Hid (min (x : Int) (y : Int) = (mn : Int)) := Lib.hid (by have := HMN.out; omega)
        by_cases e1 : f = x
        · have q1 : (f : Int) = (x : Int) := by omega
          have q2 : ((f : Int) == (x : Int)) = true := by rw [beq_iff_eq]; exact q1
          clear hin e1
          go_wp2
          go_roundg gq
          case measure => omega
          case rel => exact ⟨k + 1, by have := HK.out; omega, by go_num, by rw [HX.out]; exact HT2.out, by rw [HX.out]; exact HG2.out⟩
        · have q0 : (f : Int) = (y : Int) := by omega
          have q1 : ¬ (f : Int) = (x : Int) := by omega
          have q2 : ((f : Int) == (x : Int)) = false := by rw [beq_eq_false_iff_ne]; exact q1
          have q3 : ((f : Int) == (y : Int)) = true := by rw [beq_iff_eq]; exact q0
          have q4 : ¬ (y : Int) = (x : Int) := by omega
          clear hin e1
          go_wp2
          go_roundg gq
          case measure => omega
          case rel => exact ⟨k + 1, by have := HK.out; omega, by go_num, by rw [HX.out]; exact HT2.out, by rw [HX.out]; exact HG2.out⟩
      · have hT2 : TabI wr B g n (jnK F x y (k + 1)) := hT.congr fun j hj => by
          unfold jnK
          by_cases e : j = k
          · subst e; rw [if_neg (by omega), if_pos (by omega), jn_out hin]
          · by_cases e2 : j < k
            · rw [if_pos e2, if_pos (by omega)]
            · rw [if_neg e2, if_neg (by omega)]
        have HT2 := Lib.hid hT2
        clear hT2 hT hk
        have q1 : ¬ (F k : Int) = (x : Int) := by omega
        have q3 : ¬ (F k : Int) = (y : Int) := by omega
        have q2 : ((F k : Int) == (x : Int)) = false := by rw [beq_eq_false_iff_ne]; exact q1
        have q4 : ((F k : Int) == (y : Int)) = false := by rw [beq_eq_false_iff_ne]; exact q3
        clear hin
        generalize F k = f at *
        go_wp2
        go_roundg gq
        case measure => omega
        case rel => exact ⟨k + 1, by have := HK.out; omega, by go_num, HT2.out, hG⟩
    · have HT2 : Hid (TabI wr B g n (jn F x y)) := Lib.hid (hT.congr fun j hj => by unfold jnK; rw [if_pos (by omega)])
      have hpi : ¬ (k : Int) < (n : Int) := by omega
      clear hT
      go_wp2
      go_end0
      exact ⟨rfl, HT2.out, hG⟩

theorem lit2 (W : World) (a b : Int) (ty : TypeId) (u : Nat) (hu : u < 2) : (W.alloc (.cells #[.int .i64 a, .int .i64 b] ty)).cell? ⟨W.heap.size, u, none⟩ = some (.int .i64 (if u = 0 then a else b)) := by
  rcases u with _ | _ | u
  · simp [World.cell?_alloc_new]
  · simp [World.cell?_alloc_new]
  · omega
theorem cell_grown {W W' : World} {row : Option Nat} (hg : W.grownBy W' row) {g : Nat} (h : some g ≠ row) (hl : g < W.heap.size) (j : Nat) : W'.cell? ⟨g, j, none⟩ = W.cell? ⟨g, j, none⟩ := by
  simp [World.cell?, hg.block g hl h]

/-- The first places are laid. -/
def idK (k j : Nat) : Nat := if j < k then j else 0

set_option maxRecDepth 100000 in
set_option maxHeartbeats 2000000 in
theorem firstEquals_any (n p q : Nat) (w : World) (hn : n ≤ 60) (hp : 1 ≤ p) (hp2 : p ≤ 60) (hq : 1 ≤ q) (hq2 : q ≤ 60) :
    Calls Try.prog 93 #[.int .i64 (n : Int), .int .i64 (p : Int), .int .i64 (q : Int)] w fun e w' => e = .returned (.slice (some ⟨w.heap.size, 0, none⟩) n n) ∧ TabI w' w.heap.size w.heap.size n (fsF n p q n) ∧ Below w.heap.size w w' := by
  obtain ⟨i0, hi, hz0, hz1, hz2⟩ := info_parts infoI64
  have hmo : Try.prog.follows .mixedOrders = true := by kernel_rfl
  go_enter Try.func93, Try.ntmps93
  go_wp2_with (at_make; refine wpList_make_full _ rfl _ _ 34 rfl w.heap.size 2 i0 (.int .i64 0) 1 Try.underlying34 hi hz0 hz1 .i64 .i64 (n : Int) (n : Int) n rfl rfl rfl rfl (by rw [hz2]; omega) (by unfold maxLen; omega) (Nat.le_refl _) ?_; intro wm hown hgrow)
  have hown0 : TabI wm w.heap.size w.heap.size n (idK 0) := by
    have h2 := hown
    rw [show (Value.int .i64 0).cells = #[Value.int .i64 0] from rfl, toList_madeCells_one, Nat.mul_one] at h2
    unfold TabI
    rw [show (fl n (idK 0)).map (Value.int .i64) = List.replicate n (.int .i64 0) by
      apply List.ext_getElem
      · simp [fl_len]
      · intro j h1 h2
        simp [fl_get, idK]]
    exact h2
  have Bm : Below w.heap.size w wm := (Below.refl _ _).grown hgrow (Nat.le_refl _) (fun _ e => by cases e)
  clear hown hgrow
  go_wp2
  go_loopg [16] n (fun gg s16 wr => ∃ k : Nat, k + gg = n ∧ s16 = .int .i64 (k : Int) ∧ TabI wr w.heap.size w.heap.size n (idK k) ∧ Below w.heap.size w wr)
  case atStart => exact ⟨0, by omega, rfl, hown0, Bm⟩
  case round =>
    clear hown0 Bm
    obtain ⟨k, hk, rfl, hT, hB⟩ := hrel
    by_cases hpk : k < n
    · obtain ⟨gq, rfl⟩ : ∃ q, gk = q + 1 := ⟨gk - 1, by omega⟩
      have hpi : (k : Int) < (n : Int) := by omega
      have c := hT.at' hpk
      have fz : wr.frozen? ⟨w.heap.size, k, none⟩ = false := hT.frozenAt k
      have hT2 : TabI (wr.setCell ⟨w.heap.size, k, none⟩ (.int .i64 (k : Int))) w.heap.size w.heap.size n (idK (k + 1)) := hT.put fun j hj => by
        unfold idK
        by_cases e : j = k
        · subst e; rw [if_pos (by omega), if_pos rfl]
        · rw [if_neg e]
          by_cases e2 : j < k
          · rw [if_pos e2, if_pos (by omega)]
          · rw [if_neg e2, if_neg (by omega)]
      have HT2 := Lib.hid hT2
      have HB2 := Lib.hid (hB.setCell (p := ⟨w.heap.size, k, none⟩) (Nat.le_refl _) (.int .i64 (k : Int)))
      have HK := Lib.hid hk
      clear hT hT2 hB hk
      go_wp2
      go_roundg gq
      case measure => omega
      case rel => exact ⟨k + 1, by have := HK.out; omega, by go_num, HT2.out, HB2.out⟩
    · have HT2 : Hid (TabI wr w.heap.size w.heap.size n (fsF n p q 0)) := Lib.hid (hT.congr fun j hj => by unfold idK; rw [if_pos (by omega)]; rfl)
      have hpi : ¬ (k : Int) < (n : Int) := by omega
      clear hT
      go_wp2
      go_loopg [25] n (fun gg s25 wr' => ∃ i : Nat, i + gg = n ∧ s25 = .int .i64 (i : Int) ∧ TabI wr' w.heap.size w.heap.size n (fsF n p q i) ∧ Below w.heap.size w wr')
      case atStart => exact ⟨0, by omega, rfl, HT2.out, hB⟩
      case round =>
        clear HT2 hB hk
        obtain ⟨i, hi2, rfl, hT, hB⟩ := hrel
        by_cases hpi2 : i < n
        · obtain ⟨gq, rfl⟩ : ∃ q, gk = q + 1 := ⟨gk - 1, by omega⟩
          have hii : (i : Int) < (n : Int) := by omega
          have wq1 : IntKind.i64.wrap ((i : Int) + (p : Int)) = (i : Int) + (p : Int) := IntWalk.i64_in _ (by omega)
          have wq2 : IntKind.i64.wrap ((i : Int) + (q : Int)) = (i : Int) + (q : Int) := IntWalk.i64_in _ (by omega)
          have HI := Lib.hid hi2
          have hbz := hB.size
          clear hi2
          have hGl := (World.ownsRow.lt hT w.heap.size rfl).2
          have HL0 : Hid (∀ u, u < 2 → (wr.alloc (.cells #[.int .i64 ((i : Int) + (p : Int)), .int .i64 ((i : Int) + (q : Int))] 2)).cell? ⟨wr.heap.size, u, none⟩ = some (.int .i64 ((i : Int) + (farT p q u : Int)))) := Lib.hid fun u hu => by
            rw [lit2 _ _ _ _ u hu]
            unfold farT
            by_cases e : u = 0
            · rw [if_pos e, if_pos e]
            · rw [if_neg e, if_neg e]
          have hT0 : TabI (wr.alloc (.cells #[.int .i64 ((i : Int) + (p : Int)), .int .i64 ((i : Int) + (q : Int))] 2)) w.heap.size w.heap.size n (fsT n p q i 0) := World.ownsRow.alloc hT _
          have hB0 := hB.alloc hbz (.cells #[.int .i64 ((i : Int) + (p : Int)), .int .i64 ((i : Int) + (q : Int))] 2)
          clear hT hB
          go_wp2
          go_loopg [36] 2 (fun g3 s36 wr' => ∃ t : Nat, t + g3 = 2 ∧ s36 = .int .i64 (t : Int) ∧ TabI wr' w.heap.size w.heap.size n (fsT n p q i t) ∧ Hid (∀ u, u < 2 → wr'.cell? ⟨wr.heap.size, u, none⟩ = some (.int .i64 ((i : Int) + (farT p q u : Int)))) ∧ wr.heap.size < wr'.heap.size ∧ Below w.heap.size w wr')
          case atStart => exact ⟨0, rfl, rfl, hT0, HL0, by simp, hB0⟩
          case round =>
            clear hT0 HL0 hB0 wq1 wq2
            obtain ⟨t, ht, rfl, hT, HL, hLl, hB⟩ := hrel
            by_cases ht2 : t < 2
            · obtain ⟨g3, rfl⟩ : ∃ g, gk = g + 1 := ⟨gk - 1, by omega⟩
              have hti : (t : Int) < 2 := by omega
              have cl := HL.out t ht2
              have HST : Hid (fsT n p q i (t + 1) = jnS n (farT p q t) i (fsT n p q i t)) := Lib.hid (fsT_step ht2)
              have hA := Alk.mid (p := p) (q := q) hpi2 t
              have HLE := Lib.hid hA.le
              have hf1 : 1 ≤ farT p q t := by unfold farT; split <;> assumption
              have hf2 : farT p q t ≤ 60 := by unfold farT; split <;> assumption
              have HT2 := Lib.hid ht
              clear hA ht
              generalize farT p q t = far at *
              generalize fsT n p q i t = F at *
              by_cases hin : i + far < n
              · have hini : (i : Int) + (far : Int) < (n : Int) := by omega
                have ci := hT.at' hpi2
                have cj := hT.at' hin
                have e3 : (0 : Int) ≤ (i : Int) + (far : Int) := by omega
                have e4 : ((i : Int) + (far : Int)).toNat = i + far := by omega
                have hb1 := HLE.out i hpi2
                have hb2 := HLE.out (i + far) hin
                have CJ : Hid (∀ W, TabI W w.heap.size w.heap.size n F → Calls Try.prog 149 #[.slice (some ⟨w.heap.size, 0, none⟩) n n, .int .i64 (F i : Int), .int .i64 (F (i + far) : Int)] W fun e w' => e = .returned (.tuple #[]) ∧ TabI w' w.heap.size w.heap.size n (jn F (F i) (F (i + far))) ∧ W.grownBy w' (some w.heap.size)) := Lib.hid fun W hW => join_any w.heap.size w.heap.size n F (F i) (F (i + far)) W hn (by omega) (by omega) (fun j hj => by have := HLE.out j hj; omega) hW
                have HV : Hid (fsT n p q i (t + 1) = jn F (F i) (F (i + far))) := Lib.hid (by rw [HST.out, jnS_yes hin])
                generalize F (i + far) = fy at *
                generalize F i = fx at *
                clear hb1 hb2
                go_wp2
                go_still_tail 9, hmo
                go_wp2_with (go_at_call 149; refine (CJ.out _ (own_below hT (Below.refl _ _).drew)).mono ?_; rintro e w5 ⟨rfl, hT5, hg5⟩)
                have hg6 : wr.grownBy w5 (some w.heap.size) := ⟨hg5.os, hg5.tape, hg5.output, hg5.size, hg5.block⟩
                have HL5 := HL.out
                have hT6 : TabI w5 w.heap.size w.heap.size n (fsT n p q i (t + 1)) := by rw [HV.out]; exact hT5
                have hB6 : Below w.heap.size w w5 := hB.grown hg6 hB.size (fun k e => by cases e; exact Nat.le_refl _)
                have hs6 := hg6.size
                go_wp2
                go_roundg g3
                case measure => omega
                case rel => exact ⟨t + 1, by have := HT2.out; omega, by go_num, hT6, Lib.hid (fun u hu => (cell_grown hg6 (fun e => by have := Option.some.inj e; omega) hLl u).trans (HL5 u hu)), by omega, hB6⟩
              · have hini : ¬ (i : Int) + (far : Int) < (n : Int) := by omega
                have HV : Hid (fsT n p q i (t + 1) = F) := Lib.hid (by rw [HST.out, jnS_no hin])
                go_wp2
                go_roundg g3
                case measure => omega
                case rel => exact ⟨t + 1, by have := HT2.out; omega, by go_num, by rw [HV.out]; exact hT, HL, hLl, hB⟩
            · have HT3 : Hid (TabI wr w.heap.size w.heap.size n (fsF n p q (i + 1))) := Lib.hid (by rw [show t = 2 by omega] at hT; exact hT)
              have hti : ¬ (t : Int) < 2 := by omega
              clear hT
              go_wp2
              go_roundg gq
              case measure => omega
              case rel => exact ⟨i + 1, by have := HI.out; omega, by go_num, HT3.out, hB⟩
        · have HT3 : Hid (TabI wr w.heap.size w.heap.size n (fsF n p q n)) := Lib.hid (by rw [show i = n by omega] at hT; exact hT)
          have hii : ¬ (i : Int) < (n : Int) := by omega
          clear hT
          go_wp2
          go_ret
          exact ⟨rfl, HT3.out, hB⟩

/-- The numbers of the places ahead. -/
def nmK (F : Nat → Nat) (k j : Nat) : Nat := if j < k then numF F j else 0
theorem TabI.zero {W : World} {B g n : Nat} {G : Nat → Nat} (h : W.ownsRow B 2 1 (.slice (some ⟨g, 0, none⟩) n n) n (madeCells (Value.int .i64 0).cells (n * 1)).toList) (e : ∀ j, j < n → G j = 0) : TabI W B g n G := by
  rw [show (Value.int .i64 0).cells = #[Value.int .i64 0] from rfl, toList_madeCells_one, Nat.mul_one] at h
  unfold TabI
  rw [show (fl n G).map (Value.int .i64) = List.replicate n (.int .i64 0) by
    apply List.ext_getElem
    · simp [fl_len]
    · intro j h1 h2
      simp only [List.getElem_map, fl_get, List.getElem_replicate]
      rw [e j (by simpa [fl_len] using h1)]
      rfl]
  exact h
theorem TabI.own {W : World} {B g n : Nat} {G : Nat → Nat} (h : TabI W B g n G) : OwnI W B (.slice (some ⟨g, 0, none⟩) n n) (fl n G) := by
  unfold OwnI
  rw [fl_len]
  exact h

set_option maxRecDepth 100000 in
set_option maxHeartbeats 2000000 in
theorem numbers_any (B g n : Nat) (F : Nat → Nat) (w : World) (hn : n ≤ 60) (hle : ∀ j, j < n → F j ≤ j) (hfix : ∀ j, j < n → F (F j) = F j) (h : TabI w B g n F) :
    Calls Try.prog 92 #[.slice (some ⟨g, 0, none⟩) n n] w fun e w' => e = .returned (.slice (some ⟨w.heap.size, 0, none⟩) n n) ∧ TabI w' w.heap.size w.heap.size n (numF F) ∧ Below w.heap.size w w' := by
  obtain ⟨i0, hi, hz0, hz1, hz2⟩ := info_parts infoI64
  have hgl := (World.ownsRow.lt h g rfl).2
  have H := Lib.hid h
  have HLE := Lib.hid hle
  have HFX := Lib.hid hfix
  clear h hle hfix
  go_enter Try.func92, Try.ntmps92
  go_wp2_with (at_make; refine wpList_make_full _ rfl _ _ 34 rfl w.heap.size 2 i0 (.int .i64 0) 1 Try.underlying34 hi hz0 hz1 .i64 .i64 (n : Int) (n : Int) n rfl rfl rfl rfl (by rw [hz2]; omega) (by unfold maxLen; omega) (Nat.le_refl _) ?_; intro wm hown hgrow)
  have hown0 : TabI wm w.heap.size w.heap.size n (nmK F 0) := TabI.zero hown fun j hj => by unfold nmK; rw [if_neg (by omega)]
  have Bm : Below w.heap.size w wm := (Below.refl _ _).grown hgrow (Nat.le_refl _) (fun _ e => by cases e)
  clear hown hgrow
  go_wp2
  go_loopg [4, 12] n (fun gg s4 s12 wr => ∃ k : Nat, k + gg = n ∧ s12 = .int .i64 (k : Int) ∧ s4 = .int .i64 (usedF F k : Int) ∧ TabI wr w.heap.size w.heap.size n (nmK F k) ∧ Below w.heap.size w wr)
  case atStart => exact ⟨0, by omega, rfl, rfl, hown0, Bm⟩
  case round =>
    clear hown0 Bm
    obtain ⟨k, hk, rfl, rfl, hT, hB⟩ := hrel
    by_cases hp : k < n
    · obtain ⟨gq, rfl⟩ : ∃ q, gk = q + 1 := ⟨gk - 1, by omega⟩
      have hpi : (k : Int) < (n : Int) := by omega
      have c : wr.cell? ⟨g, k, none⟩ = some (.int .i64 (F k : Int)) := by rw [(bcell hB).1 g k hgl]; exact H.out.at' hp
      have ck := hT.at' hp
      have fz : wr.frozen? ⟨w.heap.size, k, none⟩ = false := hT.frozenAt k
      have hle := HLE.out k hp
      have hfx := HFX.out k hp
      have hul := usedF_le F k
      have wq : IntKind.i64.wrap ((usedF F k : Int) + 1) = (usedF F k : Int) + 1 := IntWalk.i64_in _ (by omega)
      have HK := Lib.hid hk
      by_cases hf : F k = k
      · have hT2 : TabI (wr.setCell ⟨w.heap.size, k, none⟩ (.int .i64 (usedF F k : Int))) w.heap.size w.heap.size n (nmK F (k + 1)) := hT.put fun j hj => by
          unfold nmK
          by_cases e : j = k
          · subst e; rw [if_pos (by omega), if_pos rfl]; unfold numF; rw [hf]
          · rw [if_neg e]
            by_cases e2 : j < k
            · rw [if_pos e2, if_pos (by omega)]
            · rw [if_neg e2, if_neg (by omega)]
        have HT2 := Lib.hid hT2
        have HB2 := Lib.hid (hB.setCell (p := ⟨w.heap.size, k, none⟩) (Nat.le_refl _) (.int .i64 (usedF F k : Int)))
        have HU : Hid (usedF F (k + 1) = usedF F k + 1) := Lib.hid (usedF_yes hf)
        rw [hf] at c
        have q2 : ((k : Int) == (k : Int)) = true := by rw [beq_iff_eq]
        clear hT hT2 hB hk hle hfx hf
        generalize usedF F k = u at *
        go_wp2
        go_roundg gq
        case measure => omega
        case rel => exact ⟨k + 1, by have := HK.out; omega, by go_num, by rw [HU.out]; go_num, HT2.out, HB2.out⟩
      · have cf := hT.at' (j := F k) (by omega)
        rw [show nmK F k (F k) = numF F k by unfold nmK; rw [if_pos (by omega)]; unfold numF; rw [hfx]] at cf
        have hT2 : TabI (wr.setCell ⟨w.heap.size, k, none⟩ (.int .i64 (numF F k : Int))) w.heap.size w.heap.size n (nmK F (k + 1)) := hT.put fun j hj => by
          unfold nmK
          by_cases e : j = k
          · subst e; rw [if_pos (by omega), if_pos rfl]
          · rw [if_neg e]
            by_cases e2 : j < k
            · rw [if_pos e2, if_pos (by omega)]
            · rw [if_neg e2, if_neg (by omega)]
        have HT2 := Lib.hid hT2
        have HB2 := Lib.hid (hB.setCell (p := ⟨w.heap.size, k, none⟩) (Nat.le_refl _) (.int .i64 (numF F k : Int)))
        have HU : Hid (usedF F (k + 1) = usedF F k) := Lib.hid (usedF_no hf)
        have q1 : ¬ (F k : Int) = (k : Int) := by omega
        have q2 : ((F k : Int) == (k : Int)) = false := by rw [beq_eq_false_iff_ne]; exact q1
        have hfn : F k < n := by omega
        have hfni : (F k : Int) < (n : Int) := by omega
        clear hT hT2 hB hk hle hfx hf
        generalize usedF F k = u at *
        generalize numF F k = v at *
        generalize F k = f at *
        go_wp2
        go_roundg gq
        case measure => omega
        case rel => exact ⟨k + 1, by have := HK.out; omega, by go_num, by rw [HU.out], HT2.out, HB2.out⟩
    · have HT2 : Hid (TabI wr w.heap.size w.heap.size n (numF F)) := Lib.hid (hT.congr fun j hj => by unfold nmK; rw [if_pos (by omega)])
      have hpi : ¬ (k : Int) < (n : Int) := by omega
      clear hT
      go_wp2
      go_ret
      exact ⟨rfl, HT2.out, hB⟩

set_option maxRecDepth 100000 in
set_option maxHeartbeats 2000000 in
theorem impl_DoubleWord (p q : Int) (w : World) (wp : (Lit.int .i64 p).wf = true) (wq : (Lit.int .i64 q).wf = true) :
    Calls Try.prog 16 #[.int .i64 p, .int .i64 q] w fun e w' => e = .returned (.tuple #[.string (dwR p q).1, .int .i64 (dwR p q).2]) ∧ Below w.heap.size w w' := by
  have hd := fun w => impl_DoubleLength p q w wp wq
  by_cases h0 : p < 1 ∨ q < 1 ∨ 1000000 < p ∨ 1000000 < q
  · rw [dlenR_bad h0] at hd
    rw [dwR_bad (by omega)]
    have HD := Lib.hid hd
    clear hd h0
    go_enter Try.func16, Try.ntmps16
    go_wp2_with fail
    refine (HD.out _).mono ?_
    rintro e w1 ⟨rfl, b1⟩
    go_wp2_with fail
    go_ret2
    exact ⟨rfl, b1⟩
  · obtain ⟨a, rfl⟩ := Int.eq_ofNat_of_zero_le (show 0 ≤ p by omega)
    obtain ⟨b, rfl⟩ := Int.eq_ofNat_of_zero_le (show 0 ≤ q by omega)
    rw [dlenR_ok (by omega) (by omega) (by omega) (by omega)] at hd
    have hg0 := Nat.gcd_pos_of_pos_left b (show 0 < a by omega)
    have hg1 := Nat.gcd_le_left b (show 0 < a by omega)
    have hg2 := Nat.gcd_le_right a (show 0 < b by omega)
    have hN : (a : Int) + (b : Int) - (Nat.gcd a b : Nat) - 1 = (dwN a b : Int) := by unfold dwN; omega
    rw [hN] at hd
    have HD := Lib.hid hd
    clear hd
    by_cases hm : 60 < max (a : Int) (b : Int)
    · rw [dwR_bad (by omega)]
      clear hN
      generalize dwN a b = n at *
      go_enter Try.func16, Try.ntmps16
      go_wp2_with fail
      refine (HD.out _).mono ?_
      rintro e w1 ⟨rfl, b1⟩
      go_wp2_with fail
      go_ret2
      exact ⟨rfl, b1⟩
    · have hrg : 1 ≤ a ∧ a ≤ 60 ∧ 1 ≤ b ∧ b ≤ 60 := by omega
      by_cases hl : 60 < dwN a b
      · rw [dwR_long hrg hl]
        clear hN
        have hli : (60 : Int) < (dwN a b : Int) := by omega
        generalize dwN a b = n at *
        go_enter Try.func16, Try.ntmps16
        go_wp2_with fail
        refine (HD.out _).mono ?_
        rintro e w1 ⟨rfl, b1⟩
        go_wp2_with fail
        go_ret2
        exact ⟨rfl, b1⟩
      · have hA := Alk.all (dwN a b) a b (dwN a b) (Nat.le_refl _)
        have hli : ¬ (60 : Int) < (dwN a b : Int) := by omega
        have CF := Lib.hid fun w => firstEquals_any (dwN a b) a b w (by omega) hrg.1 hrg.2.1 hrg.2.2.1 hrg.2.2.2
        have HL := Lib.hid (fl_okN (n := dwN a b) (F := dwF a b))
        have CN := Lib.hid fun (B g : Nat) (w : World) (h : TabI w B g (dwN a b) (dwF a b)) => numbers_any B g (dwN a b) (dwF a b) w (by omega) hA.le hA.fix h
        have CFF : Hid (∀ w, Calls Try.prog 93 #[.int .i64 (dwN a b : Int), .int .i64 (a : Int), .int .i64 (b : Int)] w fun e w' => e = .returned (.slice (some ⟨w.heap.size, 0, none⟩) (dwN a b) (dwN a b)) ∧ TabI w' w.heap.size w.heap.size (dwN a b) (dwF a b) ∧ Below w.heap.size w w') := CF
        by_cases hfew : few (dwF a b) (dwN a b)
        · rw [dwR_ok hrg hl hfew]
          have hok := HL.out.2 hfew
          clear hN hA CF hfew
          generalize dwF a b = F at *
          generalize dwN a b = n at *
          have hlen := fl_len n (numF F)
          have HOK := Lib.hid hok
          have HLN := Lib.hid hlen
          clear hok hlen
          go_enter Try.func16, Try.ntmps16
          go_wp2_with fail
          refine (HD.out _).mono ?_
          rintro e w1 ⟨rfl, b1⟩
          go_wp2_with fail
          refine (CFF.out _).mono ?_
          rintro e w2 ⟨rfl, hT, b2⟩
          have B := b1.then b2
          clear b1 b2
          go_wp2_with fail
          refine (CN.out _ _ _ hT).mono ?_
          rintro e w3 ⟨rfl, hT2, b3⟩
          have B := B.then b3
          have hO := hT2.own
          clear b3 hT hT2
          go_wp2_with fail
          refine (areLN_yes _ _ _ _ hO (by rw [HLN.out]; omega) HOK.out).mono ?_
          rintro e w4 ⟨rfl, b4⟩
          have B := B.then b4
          have hO := hO.below b4
          clear b4
          go_wp2_with fail
          refine (wordOf_any _ _ _ _ hO (by rw [HLN.out]; omega) HOK.out).mono ?_
          rintro e w5 ⟨rfl, b5⟩
          have B := B.then b5
          go_wp2_with fail
          go_ret2
          exact ⟨rfl, B⟩
        · rw [dwR_many hrg hfew]
          have hok := fun e => hfew (HL.out.1 e)
          clear hN hA CF hfew
          generalize dwF a b = F at *
          generalize dwN a b = n at *
          have hlen := fl_len n (numF F)
          have HOK := Lib.hid hok
          have HLN := Lib.hid hlen
          clear hok hlen
          go_enter Try.func16, Try.ntmps16
          go_wp2_with fail
          refine (HD.out _).mono ?_
          rintro e w1 ⟨rfl, b1⟩
          go_wp2_with fail
          refine (CFF.out _).mono ?_
          rintro e w2 ⟨rfl, hT, b2⟩
          have B := b1.then b2
          clear b1 b2
          go_wp2_with fail
          refine (CN.out _ _ _ hT).mono ?_
          rintro e w3 ⟨rfl, hT2, b3⟩
          have B := B.then b3
          have hO := hT2.own
          clear b3 hT hT2
          go_wp2_with fail
          refine (areLN_no _ _ _ _ hO (by rw [HLN.out]; omega) HOK.out).mono ?_
          rintro e w4 ⟨rfl, b4⟩
          have B := B.then b4
          go_wp2_with fail
          go_ret2
          exact ⟨rfl, B⟩

end Go.Proofs.Ythjbdcoklgnnlab
