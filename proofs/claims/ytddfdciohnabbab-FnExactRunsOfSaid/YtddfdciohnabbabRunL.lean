/- Slices of runs: alike, marked, still marked. -/
import Derived.Test.YtddfdciohnabbabRunS
import Derived.Test.YtddfdciohnabbabRunI
import Derived.StillTailTactics
namespace Go.Proofs.Ytddfdciohnabbab
set_option linter.unusedVariables false
set_option linter.unusedSimpArgs false
open Go.RowKit

theorem OwnT.lt {w : World} {B : Nat} {v : Value} {L : List Tr} (h : OwnT w B v L) : ∀ k, v.ownBlock = some k → B ≤ k ∧ k < w.heap.size := World.ownsRow.lt h
theorem OwnT.empty {w : World} {B : Nat} {v : Value} (h : OwnT w B v []) : ∃ a c, v = .slice a 0 c := by
  rcases h.2 with ⟨rfl, e0⟩ | ⟨g, cap, cur, rfl, h'⟩
  · exact ⟨_, _, rfl⟩
  · exact ⟨_, _, rfl⟩
theorem flatT_cell (L : List Tr) : ∀ (j : Nat) (hj : j < L.length), (flatT L)[j * 3]? = some (.int .i64 ((L[j]'hj).1 : Int)) ∧ (flatT L)[j * 3 + 1]? = some (.int .i64 ((L[j]'hj).2.1 : Int)) ∧ (flatT L)[j * 3 + 2]? = some (.int .i64 ((L[j]'hj).2.2 : Int)) := by
  induction L with
  | nil => intro j hj; simp at hj
  | cons a L ih =>
    intro j hj
    cases j with
    | zero => exact ⟨rfl, rfl, rfl⟩
    | succ j =>
      have := ih j (by simpa using hj)
      rw [Nat.succ_mul]
      exact this
theorem OwnT.row {w : World} {B : Nat} {v : Value} {L : List Tr} (h : OwnT w B v L) (hn : 0 < L.length) :
    ∃ g cap, v = .slice (some ⟨g, 0, none⟩) L.length cap ∧ B ≤ g ∧ g < w.heap.size ∧ L.length ≤ cap ∧ L.length ≤ maxLen ∧ (∀ j (hj : j < L.length), w.cell? ⟨g, j * 3, none⟩ = some (.int .i64 ((L[j]'hj).1 : Int)) ∧ w.cell? ⟨g, j * 3 + 1, none⟩ = some (.int .i64 ((L[j]'hj).2.1 : Int)) ∧ w.cell? ⟨g, j * 3 + 2, none⟩ = some (.int .i64 ((L[j]'hj).2.2 : Int))) := by
  rcases h.2 with ⟨rfl, e0⟩ | ⟨g, cap, cur, rfl, hbase, hb, h1, h2, h3, h4⟩
  · omega
  · refine ⟨g, cap, rfl, hbase, (Array.getElem?_eq_some_iff.1 hb).1, h1, by omega, fun j hj => ?_⟩
    obtain ⟨c0, c1, c2⟩ := flatT_cell L j hj
    exact ⟨(World.ownsRow.cellAt h (j * 3) (by omega)).trans c0, (World.ownsRow.cellAt h (j * 3 + 1) (by omega)).trans c1, (World.ownsRow.cellAt h (j * 3 + 2) (by omega)).trans c2⟩

set_option maxRecDepth 100000 in
theorem eqRun_any (a b c : Nat) (w : World) :
    Calls Try.prog 115 #[.agg #[.int .i64 (a : Int), .int .i64 (b : Int), .int .i64 (c : Int)], .agg #[.int .i64 (a : Int), .int .i64 (b : Int), .int .i64 (c : Int)]] w fun e w' => e = .returned (.bool true) ∧ Below w.heap.size w w' := by
  have NX := Rn3.new w (.int .i64 (a : Int)) (.int .i64 (b : Int)) (.int .i64 (c : Int))
  have NY := Rn3.new (w.alloc (.cells #[.int .i64 (a : Int), .int .i64 (b : Int), .int .i64 (c : Int)] 113)) (.int .i64 (a : Int)) (.int .i64 (b : Int)) (.int .i64 (c : Int))
  have NX2 := NX.later (Below.new (w.alloc (.cells #[.int .i64 (a : Int), .int .i64 (b : Int), .int .i64 (c : Int)] 113)) (.cells #[.int .i64 (a : Int), .int .i64 (b : Int), .int .i64 (c : Int)] 113))
  have hB : Below w.heap.size w ((w.alloc (.cells #[.int .i64 (a : Int), .int .i64 (b : Int), .int .i64 (c : Int)] 113)).alloc (.cells #[.int .i64 (a : Int), .int .i64 (b : Int), .int .i64 (c : Int)] 113)) := ((Below.refl _ _).alloc (Nat.le_refl _) _).alloc (by simp) _
  have hsz : ((w.alloc (.cells #[.int .i64 (a : Int), .int .i64 (b : Int), .int .i64 (c : Int)] 113)).heap.size) = w.heap.size + 1 := Array.size_push _
  have x0 := NX2.c0
  have x1 := NX2.c1
  have x2 := NX2.c2
  have y0 := NY.c0
  have y1 := NY.c1
  have y2 := NY.c2
  rw [hsz] at y0 y1 y2
  clear NX NY NX2 hsz
  go_enter Try.func115, Try.ntmps115
  go_wp2
  go_ret
  exact ⟨rfl, hB⟩

set_option maxRecDepth 100000 in
set_option maxHeartbeats 1000000 in
theorem eqT_yes (B1 B2 : Nat) (v1 v2 : Value) (L : List Tr) (w : World) (h1 : OwnT w B1 v1 L) (h2 : OwnT w B2 v2 L) :
    Calls Try.prog 37 #[v1, v2] w fun e w' => e = .returned (.bool true) ∧ Below w.heap.size w w' := by
  by_cases h0 : L = []
  · subst h0
    obtain ⟨a1, c1, rfl⟩ := h1.empty
    obtain ⟨a2, c2, rfl⟩ := h2.empty
    clear h1 h2
    go_enter Try.func37, Try.ntmps37
    go_wp2
    refine wp_loop_rounds 1 ?_
    rw [rounds_succ]
    go_wp2
    go_ret
    exact ⟨rfl, Below.refl _ _⟩
  · have hn : 0 < L.length := List.length_pos_iff.2 h0
    obtain ⟨g1, c1, rfl, _, hg1, hc1, hm, cell1⟩ := h1.row hn
    obtain ⟨g2, c2, rfl, _, hg2, hc2, _, cell2⟩ := h2.row hn
    unfold maxLen at hm
    have C1 := Lib.hid cell1
    have C2 := Lib.hid cell2
    have hmo : Try.prog.follows .mixedOrders = true := by kernel_rfl
    clear h1 h2 cell1 cell2 h0
    go_enter Try.func37, Try.ntmps37
    go_wp2
    go_loopw [5] (fun i wr => ∃ k : Nat, k ≤ L.length ∧ i = .int .i64 k ∧ Below w.heap.size w wr) (fun i _ => L.length - (intOf i).toNat)
    case atStart => exact ⟨0, Nat.zero_le _, rfl, Below.refl _ _⟩
    case round =>
      obtain ⟨k, hk, rfl, hB⟩ := hrel
      by_cases hp : k < L.length
      · obtain ⟨p0, p1, p2⟩ := C1.out k hp
        obtain ⟨q0, q1, q2⟩ := C2.out k hp
        have k0 : wr.cell? ⟨g1, k * 3, none⟩ = some (.int .i64 ((L[k]'hp).1 : Int)) := by rw [(bcell hB).1 g1 _ hg1]; exact p0
        have k1 : wr.cell? ⟨g1, k * 3 + 1, none⟩ = some (.int .i64 ((L[k]'hp).2.1 : Int)) := by rw [(bcell hB).1 g1 _ hg1]; exact p1
        have k2 : wr.cell? ⟨g1, k * 3 + 2, none⟩ = some (.int .i64 ((L[k]'hp).2.2 : Int)) := by rw [(bcell hB).1 g1 _ hg1]; exact p2
        have m0 : wr.cell? ⟨g2, k * 3, none⟩ = some (.int .i64 ((L[k]'hp).1 : Int)) := by rw [(bcell hB).1 g2 _ hg2]; exact q0
        have m1 : wr.cell? ⟨g2, k * 3 + 1, none⟩ = some (.int .i64 ((L[k]'hp).2.1 : Int)) := by rw [(bcell hB).1 g2 _ hg2]; exact q1
        have m2 : wr.cell? ⟨g2, k * 3 + 2, none⟩ = some (.int .i64 ((L[k]'hp).2.2 : Int)) := by rw [(bcell hB).1 g2 _ hg2]; exact q2
        have hpc1 : k < c1 := by omega
        have hpc2 : k < c2 := by omega
        clear p0 p1 p2 q0 q1 q2
        generalize (L[k]'hp).1 = z0 at *
        generalize (L[k]'hp).2.1 = z1 at *
        generalize (L[k]'hp).2.2 = z2 at *
        go_wp2
        go_still_tail 8, hmo
        go_wp2_with fail
        refine (eqRun_any z0 z1 z2 _).mono ?_
        rintro e w5 ⟨rfl, b5⟩
        go_wp2_with fail
        go_roundw
        case rel => exact ⟨k + 1, by omega, by go_num, hB.drew.then b5⟩
        case measure => simp [intOf]; omega
      · go_wp2
        go_ret
        exact ⟨rfl, hB⟩

/-- The numbers from m on, three a run. -/
def marksT (m : Nat) (n : Nat) : List Tr := (List.range n).map fun (j : Nat) => (m + 3 * j, m + 3 * j + 1, m + 3 * j + 2)
theorem marksT_len (m : Nat) (n : Nat) : (marksT m n).length = n := by simp [marksT]
theorem marksT_get (m : Nat) (n j : Nat) (h : j < (marksT m n).length) : (marksT m n)[j]'h = (m + 3 * j, m + 3 * j + 1, m + 3 * j + 2) := by simp [marksT]
theorem marksT_succ (m : Nat) (n : Nat) : marksT m (n + 1) = marksT m n ++ [(m + 3 * n, m + 3 * n + 1, m + 3 * n + 2)] := by simp [marksT, List.range_succ]
theorem flatT_set (A R : List Tr) (r : Tr) (n x y z : Nat) (hn : n = A.length) :
    (((flatT (A ++ r :: R)).set (n * 3) (.int .i64 (x : Int))).set (n * 3 + 1) (.int .i64 (y : Int))).set (n * 3 + 2) (.int .i64 (z : Int)) = flatT (A ++ (x, y, z) :: R) := by
  have hl : (flatT A).length = n * 3 := by rw [flatT_len, hn]
  rw [flatT_app, flatT_app]
  rw [List.set_append_right _ _ (by omega), List.set_append_right _ _ (by omega), List.set_append_right _ _ (by omega), hl, Nat.sub_self, Nat.add_sub_cancel_left, Nat.add_sub_cancel_left]
  rfl
theorem marksT_step (m : Nat) (L : List Tr) (k : Nat) (h : k < L.length) :
    (((flatT (marksT m k ++ L.drop k)).set (k * 3) (.int .i64 ((m + 3 * k : Nat) : Int))).set (k * 3 + 1) (.int .i64 ((m + 3 * k + 1 : Nat) : Int))).set (k * 3 + 2) (.int .i64 ((m + 3 * k + 2 : Nat) : Int)) = flatT (marksT m (k + 1) ++ L.drop (k + 1)) := by
  rw [List.drop_eq_getElem_cons h, flatT_set _ _ _ _ _ _ _ (by rw [marksT_len]), marksT_succ, List.append_assoc]
  rfl

set_option maxRecDepth 100000 in
set_option maxHeartbeats 1000000 in
theorem markT_any (B : Nat) (v : Value) (L : List Tr) (m : Nat) (w : World) (h : OwnT w B v L) (m0 : 0 < m) (m1 : m ≤ 1100000) (hl : L.length ≤ 1100000) :
    Calls Try.prog 38 #[v, .int .i64 (m : Int)] w fun e w' => e = .returned (.int .i64 ((m : Int) + 3 * (L.length : Int))) ∧ OwnT w' B v (marksT m L.length) ∧ w.grownBy w' v.ownBlock := by
  by_cases h0 : L = []
  · subst h0
    obtain ⟨a1, c1, rfl⟩ := h.empty
    have H := Lib.hid h
    clear h
    go_enter Try.func38, Try.ntmps38
    go_wp2
    refine wp_loop_rounds 1 ?_
    rw [rounds_succ]
    go_wp2
    go_ret
    exact ⟨by simp, by simpa [marksT] using H.out, grown_refl _ _⟩
  · have hn : 0 < L.length := List.length_pos_iff.2 h0
    obtain ⟨g, c, rfl, hBg, hg, hc, hm, _⟩ := h.row hn
    have H := Lib.hid h
    clear h h0
    go_enter Try.func38, Try.ntmps38
    go_wp2
    go_loopw [1, 5] (fun q i wr => ∃ k : Nat, k ≤ L.length ∧ i = .int .i64 k ∧ q = .int .i64 ((m + 3 * k : Nat) : Int) ∧ OwnT wr B (.slice (some ⟨g, 0, none⟩) L.length c) (marksT m k ++ L.drop k) ∧ w.grownBy wr (some g))
      (fun _ i _ => L.length - (intOf i).toNat)
    case atStart => exact ⟨0, Nat.zero_le _, rfl, by simp, by have := H.out; simpa [marksT] using this, grown_refl _ _⟩
    case round =>
      obtain ⟨k, hk, rfl, rfl, hown, hgr⟩ := hrel
      by_cases hp : k < L.length
      · have hl2 : (marksT m k ++ L.drop k).length = L.length := by rw [List.length_append, marksT_len, List.length_drop]; omega
        have hown2 : wr.ownsRow B 113 3 (.slice (some ⟨g, 0, none⟩) L.length c) L.length (flatT (marksT m k ++ L.drop k)) := by
          have := hown
          unfold OwnT at this
          rw [hl2] at this
          exact this
        obtain ⟨p0, p1, p2⟩ := flatT_cell (marksT m k ++ L.drop k) k (by omega)
        obtain ⟨z0, z1, z2, k0, k1, k2⟩ : ∃ z0 z1 z2 : Nat, wr.cell? ⟨g, k * 3, none⟩ = some (.int .i64 (z0 : Int)) ∧ wr.cell? ⟨g, k * 3 + 1, none⟩ = some (.int .i64 (z1 : Int)) ∧ wr.cell? ⟨g, k * 3 + 2, none⟩ = some (.int .i64 (z2 : Int)) :=
          ⟨_, _, _, (hown2.cellAt (k * 3) (by omega)).trans p0, (hown2.cellAt (k * 3 + 1) (by omega)).trans p1, (hown2.cellAt (k * 3 + 2) (by omega)).trans p2⟩
        have f0 := hown2.frozenAt (k * 3)
        have f1 := hown2.frozenAt (k * 3 + 1)
        have f2 := hown2.frozenAt (k * 3 + 2)
        have s1 := (hown2.stored (k * 3) (.int .i64 ((m + 3 * k : Nat) : Int))).1
        have s2 := (s1.stored (k * 3 + 1) (.int .i64 ((m + 3 * k + 1 : Nat) : Int))).1
        have s3 := (s2.stored (k * 3 + 2) (.int .i64 ((m + 3 * k + 2 : Nat) : Int))).1
        rw [marksT_step m L k hp] at s3
        have HS := Lib.hid s3
        have HG := Lib.hid hgr
        have hpc : k < c := by omega
        have hl3 : (marksT m (k + 1) ++ L.drop (k + 1)).length = L.length := by rw [List.length_append, marksT_len, List.length_drop]; omega
        have HL3 := Lib.hid hl3
        clear p0 p1 p2 s1 s2 s3 hown hown2 hgr hl2 hl3
        go_wp2
        go_roundw
        case rel => exact ⟨k + 1, by omega, by go_num, by go_num, by unfold OwnT; rw [HL3.out]; exact HS.out, grown_set (grown_set (grown_set HG.out _ _) _ _) _ _⟩
        case measure => simp [intOf]; omega
      · have hke : k = L.length := by omega
        subst hke
        have HO := Lib.hid hown
        clear hown
        go_wp2
        go_ret
        refine ⟨by congr 2, ?_, hgr⟩
        have h2 := HO.out
        rw [List.drop_of_length_le (Nat.le_refl _), List.append_nil] at h2
        exact h2

set_option maxRecDepth 100000 in
set_option maxHeartbeats 1000000 in
theorem heldT_any (B : Nat) (v : Value) (n : Nat) (m : Nat) (w : World) (h : OwnT w B v (marksT m n)) (m0 : 0 < m) (m1 : m ≤ 1100000) (hl : n ≤ 1100000) :
    Calls Try.prog 39 #[v, .int .i64 (m : Int)] w fun e w' => e = .returned (.int .i64 ((m : Int) + 3 * (n : Int))) ∧ Below w.heap.size w w' := by
  by_cases h0 : n = 0
  · subst h0
    obtain ⟨a1, c1, rfl⟩ := OwnT.empty (show OwnT w B v [] by simpa [marksT] using h)
    clear h
    go_enter Try.func39, Try.ntmps39
    go_wp2
    refine wp_loop_rounds 1 ?_
    rw [rounds_succ]
    go_wp2
    go_ret
    exact ⟨by simp, Below.refl _ _⟩
  · have hn : 0 < (marksT m n).length := by rw [marksT_len]; omega
    obtain ⟨g, c, hv, hBg, hg, hc, hm, cell⟩ := h.row hn
    rw [marksT_len] at hv hc
    subst hv
    have C := Lib.hid cell
    clear h h0 cell
    go_enter Try.func39, Try.ntmps39
    go_wp2
    go_loopw [1, 5] (fun q i wr => ∃ k : Nat, k ≤ n ∧ i = .int .i64 k ∧ q = .int .i64 ((m + 3 * k : Nat) : Int) ∧ Below w.heap.size w wr) (fun _ i _ => n - (intOf i).toNat)
    case atStart => exact ⟨0, Nat.zero_le _, rfl, by simp, Below.refl _ _⟩
    case round =>
      obtain ⟨k, hk, rfl, rfl, hB⟩ := hrel
      by_cases hp : k < n
      · obtain ⟨p0, p1, p2⟩ := C.out k (by rw [marksT_len]; exact hp)
        rw [marksT_get] at p0 p1 p2
        have k0 : wr.cell? ⟨g, k * 3, none⟩ = some (.int .i64 ((m + 3 * k : Nat) : Int)) := by rw [(bcell hB).1 g _ hg]; exact p0
        have k1 : wr.cell? ⟨g, k * 3 + 1, none⟩ = some (.int .i64 ((m + 3 * k + 1 : Nat) : Int)) := by rw [(bcell hB).1 g _ hg]; exact p1
        have k2 : wr.cell? ⟨g, k * 3 + 2, none⟩ = some (.int .i64 ((m + 3 * k + 2 : Nat) : Int)) := by rw [(bcell hB).1 g _ hg]; exact p2
        have hpc : k < c := by omega
        clear p0 p1 p2
        go_wp2
        go_roundw
        case rel => exact ⟨k + 1, by omega, by go_num, by go_num, hB⟩
        case measure => simp [intOf]; omega
      · have hke : k = n := by omega
        subst hke
        go_wp2
        go_ret
        exact ⟨by congr 2, hB⟩

/-- Another slice, in an older block, is kept while one is marked. -/
theorem OwnT.kept {w w' : World} {B B' : Nat} {v u : Value} {L M : List Tr} (h : OwnT w B v L) (hu : OwnT w B' u M) (hlt : ∀ k, v.ownBlock = some k → k < B') (hg : w.grownBy w' u.ownBlock) : OwnT w' B v L := by
  refine World.ownsRow.kept h hg ?_
  cases hv : v.ownBlock with
  | none => exact .inl rfl
  | some k =>
    refine .inr fun e => ?_
    have h1 := hlt k hv
    have h2 := (World.ownsRow.lt hu k e.symm).1
    omega
/-- Behind a marking, older blocks stand. -/
theorem below_markedT {W w w' : World} {B : Nat} {v : Value} {L : List Tr} (b : Below W.heap.size W w) (h : OwnT w B v L) (hB : W.heap.size ≤ B) (hg : w.grownBy w' v.ownBlock) : Below W.heap.size W w' :=
  b.grown hg b.size fun k e => Nat.le_trans hB (h.lt k e).1
theorem runsR_len (x : ByteArray) : (runsR x).1.length ≤ 4000 := by
  by_cases h : IsW x
  · rw [runsR_ok h]
    have hx := h.size
    have h1 := mTo_len x x.size
    have h2 : x.size * x.size ≤ 60 * 60 := Nat.mul_le_mul hx hx
    have e : mTo x x.size = mR x := rfl
    rw [e] at h1
    show (mR x).length ≤ 4000
    omega
  · rw [runsR_bad h]
    exact Nat.zero_le _

end Go.Proofs.Ytddfdciohnabbab
