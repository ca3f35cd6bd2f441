/- All runs of a word: the program. -/
import Derived.Test.YtddfdciohnabbabRunP
import Derived.Test.YtddfdciohnabbabRunF
namespace Go.Proofs.Ytddfdciohnabbab
set_option linter.unusedVariables false
set_option linter.unusedSimpArgs false
open Go.RowKit Go.Sort Go.Proofs

theorem encT_cells (L : List Tr) : ∀ u ∈ flatT L, u.oneCell' = true := by
  intro u hu
  obtain ⟨r, _, h⟩ := List.mem_flatMap.1 hu
  exact encT_one r u h
theorem ownT_cells {w : World} {B g n cap : Nat} {L : List Tr} (h : OwnT w B (.slice (some ⟨g, 0, none⟩) n cap) L) : ∀ j u, (flatT L)[j]? = some u → w.cell? ((⟨g, 0, none⟩ : Addr).add j) = some u := by
  intro j u hu
  have hn : n = L.length := by
    rcases h.2 with ⟨h', _⟩ | ⟨g', cap', cur, h', _⟩
    · simp at h'
    · simp at h'; exact h'.2.1
  subst hn
  have hj : j < L.length * 3 := by
    have := (List.getElem?_eq_some_iff.1 hu).1
    rw [flatT_len] at this
    exact this
  have e : ((⟨g, 0, none⟩ : Addr).add j) = ⟨g, j, none⟩ := by simp [Addr.add]; omega
  rw [e, World.ownsRow.cellAt h j hj]
  exact hu
theorem ownT_join {w : World} {B : Nat} {v : Value} {L M : List Tr} (h : w.ownsRow B 113 3 v (L.length + M.length) (flatT L ++ flatT M)) : OwnT w B v (L ++ M) := by
  unfold OwnT
  rw [List.length_append, flatT_app]
  exact h

set_option maxRecDepth 100000 in
set_option maxHeartbeats 4000000 in
theorem impl_RunsOf (x : ByteArray) (w : World) (sx : x.size ≤ maxLen) :
    Calls Try.prog 36 #[.string x] w fun e w' => ∃ v, e = .returned (.tuple #[v, .int .i64 (runsR x).2]) ∧ OwnT w' w.heap.size v (runsR x).1 ∧ Below w.heap.size w w' := by
  by_cases h : IsW x
  · rw [runsR_ok h]
    have CI := Lib.hid fun W => isWord_yes x W h
    have hx := h.size
    have CR := Lib.hid fun q W (hq : 0 < q) (h2 : 2 * q ≤ x.size) => runsWithPeriod_any x q W hx hq h2
    have HITL := Lib.hid (iTo_len x)
    have HIRL := Lib.hid (irow_len x)
    have HIS := Lib.hid (iTo_succ x)
    have HSO : Hid (∀ l : List Tr, l.Perm (iTo x (x.size / 2)) → l.Pairwise (fun a b => ¬ ltT b a) → l = mR x) := Lib.hid fun l h1 h2 => runs_sorted h1 h2
    obtain ⟨i0, hi, hz0, hz1, hz2⟩ := info_parts infoT
    have HNIL := fun (W : World) (v : Value) (n : Nat) (xs : List Value) (own : W.ownsRow w.heap.size 113 3 v n xs) => run_append_owned_none (P := Try.prog) (w := W) w.heap.size 47 47 113 i0 3 Try.underlying47 hi v n xs own
    have HNI := Lib.hid HNIL
    clear h HNIL
    go_enter Try.func36, Try.ntmps36
    go_wp2_with fail
    refine (CI.out _).mono ?_
    rintro e w1 ⟨rfl, b1⟩
    go_wp2_with fail
    obtain ⟨H, hH⟩ : ∃ H, x.size / 2 = H := ⟨_, rfl⟩
    have hH1 : 2 * H ≤ x.size := by omega
    have hH2 : x.size < 2 * H + 2 := by omega
    rw [hH] at HSO
    clear hH
    go_loopg [4, 5] H (fun gk v s wr => ∃ k : Nat, k + gk = H ∧ s = .int .i64 ((k + 1 : Nat) : Int) ∧ OwnT wr w.heap.size v (iTo x k) ∧ Below w.heap.size w wr)
    case atStart => exact ⟨0, by omega, rfl, OwnT.nil _ _, b1⟩
    case round =>
      obtain ⟨k, hkg, rfl, own, hB⟩ := hrel
      have hbz := hB.size
      have w1 : IntKind.i64.wrap (2 * ((k + 1 : Nat) : Int)) = 2 * ((k + 1 : Nat) : Int) := IntWalk.i64_in _ (by omega)
      by_cases hp : k < H
      · obtain ⟨g1, rfl⟩ : ∃ j, gk = j + 1 := ⟨gk - 1, by omega⟩
        have hci : 2 * ((k + 1 : Nat) : Int) ≤ (x.size : Int) := by omega
        have CK := Lib.hid fun W => CR.out (k + 1) W (by omega) (by omega)
        have HE := Lib.hid (HIS.out k)
        have hl1 := HITL.out k
        have hl2 := HIRL.out (k + 1) (x.size + 1 - 2 * (k + 1))
        have hl3 : (x.size + 1) * k ≤ 61 * 60 := Nat.mul_le_mul (by omega) (by omega)
        have OWN := Lib.hid own
        have HB := Lib.hid hB
        clear own hB
        generalize irow x (k + 1) (x.size + 1 - 2 * (k + 1)) = M at *
        generalize iTo x k = L at *
        go_wp2_with fail
        refine (CK.out _).mono ?_
        rintro e w2 ⟨v2, rfl, o2, q2⟩
        have own := OWN.out.below q2
        have hB2 := HB.out.then q2
        have hbz2 := hB2.size
        rcases o2.2 with ⟨rfl, e0⟩ | ⟨g, cap, cur, rfl, hbase, hb, h1, h2, h3, h4⟩
        · have hM : M = [] := List.eq_nil_of_length_eq_zero e0
          have HE2 : Hid (iTo x (k + 1) = L) := Lib.hid (by rw [HE.out, hM, List.append_nil])
          have HO := Lib.hid own
          have HB2 := Lib.hid hB2
          rcases own.2 with ⟨rfl, e1⟩ | ⟨g0, cap0, cur0, rfl, hbase0, hb0, k1, k2, k3, k4⟩
          · clear own hB2 o2 e0 e1 hM q2
            go_wp2_with fail
            go_roundg g1
            case measure => omega
            case rel => exact ⟨k + 1, by omega, by go_num, by rw [HE2.out]; exact HO.out, HB2.out⟩
          · have k1i : (L.length : Int) ≤ (cap0 : Int) := by omega
            clear own hB2 o2 e0 hM q2 hb0 k3 k4
            go_wp2_with fail
            go_roundg g1
            case measure => omega
            case rel => exact ⟨k + 1, by omega, by go_num, by rw [HE2.out]; exact HO.out, HB2.out⟩
        · have HC := Lib.hid (ownT_cells o2)
          have hfl := flatT_len M
          go_wp2_with (at_builtin; go_loud (refine wpList_append_own _ rfl _ _ 47 rfl w.heap.size 113 i0 (.agg #[.int .i64 0, .int .i64 0, .int .i64 0]) 3 24 Try.underlying47 hi hz0 hz1 hz2 rfl (by decide) _ _ _ rfl own ⟨g, 0, none⟩ M.length cap (flatT M) rfl hfl HC.out (encT_cells M) (by unfold maxLen; omega) (by omega) (by omega) ?_); intro v' w5 hown' hgrow _)
          have HO := Lib.hid (ownT_join hown')
          rw [← HE.out] at HO
          have hB4 : Below w.heap.size w w5 := hB2.grown hgrow (by omega) (fun z hz => (own.lt z hz).1)
          clear own hown' o2 hb h4
          go_wp2_with fail
          go_roundg g1
          case measure => omega
          case rel => exact ⟨k + 1, by omega, by go_num, HO.out, hB4⟩
      · obtain rfl : gk = 0 := by omega
        obtain rfl : k = H := by omega
        have hci : ¬ 2 * ((k + 1 : Nat) : Int) ≤ (x.size : Int) := by omega
        have hl1 := HITL.out k
        have hl3 : (x.size + 1) * k ≤ 61 * 60 := Nat.mul_le_mul (by omega) (by omega)
        have CS := Lib.hid (sortT w.heap.size _ _ wr own (by omega))
        have HB := Lib.hid hB
        have OWN := Lib.hid own
        clear own hB
        go_wp2_with fail
        refine CS.out.mono ?_
        rintro e w2 ⟨rfl, ⟨L', hp1, hp2, own2⟩, hg2⟩
        have HL := Lib.hid (HSO.out L' hp1 hp2)
        have hB4 : Below w.heap.size w w2 := HB.out.grown hg2 (by omega) (fun z hz => (OWN.out.lt z hz).1)
        clear hp1 hp2 hg2
        go_wp2_with fail
        go_ret2
        exact ⟨_, rfl, by rw [← HL.out]; exact own2, hB4⟩
  · rw [runsR_bad h]
    have CI := Lib.hid fun W => isWord_not x W sx h
    clear h
    go_enter Try.func36, Try.ntmps36
    go_wp2_with fail
    refine (CI.out _).mono ?_
    rintro e w1 ⟨rfl, b1⟩
    go_wp2_with fail
    go_ret2
    exact ⟨_, rfl, OwnT.nil _ _, b1⟩

end Go.Proofs.Ytddfdciohnabbab
