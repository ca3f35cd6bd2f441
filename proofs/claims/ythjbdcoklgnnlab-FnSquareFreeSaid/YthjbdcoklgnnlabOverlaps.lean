/- All overlaps of a word: the model; whether there are any. -/
import Derived.Test.YthjbdcoklgnnlabPairs
namespace Go.Proofs.Ythjbdcoklgnnlab
set_option linter.unusedVariables false
set_option linter.unusedSimpArgs false
open Go.RowKit

def ovT (l : List UInt8) (p : Nat × Nat) : Bool := decide (p.1 + 2 * p.2 < l.length) && decide (l[p.1 + 2 * p.2]? = l[p.1]?)
theorem ov_rep (l : List UInt8) (i r : Nat) (h : 1 ≤ r) : repB l i r (eP 2 1 r) = (repB l i r (eP 2 0 r) && ovT l (i, r)) := by
  have e1 : eP 2 1 r = r + 1 := by unfold eP; omega
  have e0 : eP 2 0 r = r := by unfold eP; omega
  rw [e1, e0, Bool.eq_iff_iff, Bool.and_eq_true, repB_iff, repB_iff]
  unfold ovT
  rw [Bool.and_eq_true, decide_eq_true_iff, decide_eq_true_iff]
  constructor
  · intro c
    have c1 := c.1
    refine ⟨⟨by omega, fun d hd => c.2 d (by omega)⟩, by show i + 2 * r < l.length; omega, ?_⟩
    have h1 := c.2 r (by omega)
    have h2 := c.2 0 (by omega)
    simp only [Nat.add_zero] at h2
    show l[i + 2 * r]? = l[i]?
    rw [h2, h1]
    congr 1
    omega
  · rintro ⟨c, c3, c4⟩
    have c3' : i + 2 * r < l.length := c3
    have c4' : l[i + 2 * r]? = l[i]? := c4
    refine ⟨by omega, fun d hd => ?_⟩
    by_cases e : d = r
    · subst e
      have h2 := c.2 0 (by omega)
      simp only [Nat.add_zero] at h2
      rw [← h2, ← c4']
      congr 1
      omega
    · exact c.2 d (by omega)
theorem overlaps_eq (l : List UInt8) : reps l (eP 2 1) = (reps l (eP 2 0)).filter (ovT l) := reps_filter fun i r h => ov_rep l i r h
theorem take_filter_hit {α : Type} (L : List α) (t : α → Bool) (k : Nat) (h : k < L.length) (ht : t (L[k]'h) = true) : (L.take (k + 1)).filter t = (L.take k).filter t ++ [L[k]'h] := by
  rw [List.take_succ_eq_append_getElem h, List.filter_append]
  simp [ht]
theorem take_filter_miss {α : Type} (L : List α) (t : α → Bool) (k : Nat) (h : k < L.length) (ht : t (L[k]'h) = false) : (L.take (k + 1)).filter t = (L.take k).filter t := by
  rw [List.take_succ_eq_append_getElem h, List.filter_append]
  simp [ht]

set_option maxRecDepth 100000 in
set_option maxHeartbeats 4000000 in
theorem l03Overlaps_any (x : ByteArray) (w : World) (hx : x.size ≤ 60) :
    Calls Try.prog 116 #[.string x] w fun e w' => ∃ v, e = .returned v ∧ OwnR w' w.heap.size v (rowsN (reps (bl x) (eP 2 1))) ∧ Below w.heap.size w w' := by
  obtain ⟨i0, hi, hz0, hz1, hz2⟩ := info_parts infoSI
  have hmem : ∀ p ∈ reps (bl x) (eP 2 0), 1 ≤ p.2 ∧ p.1 + 2 * p.2 ≤ x.size := fun p hp => by
    have h1 := mem_reps.1 hp
    have h2 := h1.2.1
    have e0 : eP 2 0 p.2 = p.2 := by unfold eP; omega
    rw [e0, bl_len] at h2
    exact ⟨h1.1, by omega⟩
  have hlen := reps_short (l := bl x) (eP 2 0) hx
  have CP := Lib.hid fun w => l03Powers_any x 2 w hx (by omega) (by omega)
  rw [overlaps_eq]
  generalize reps (bl x) (eP 2 0) = L at *
  have HM := Lib.hid hmem
  clear hmem
  go_enter Try.func116, Try.ntmps116
  go_wp2_with fail
  refine (CP.out _).mono ?_
  rintro e w1 ⟨v0, rfl, o1, b1⟩
  clear CP
  by_cases h0 : L = []
  · subst h0
    obtain ⟨a1, c1, rfl⟩ := o1.empty
    go_wp2_with fail
    refine wp_loop_rounds 1 ?_
    rw [rounds_succ]
    go_wp2
    go_ret
    exact ⟨_, rfl, OwnR.lit0 w1 b1.size, b1.alloc b1.size _⟩
  have hn : 0 < L.length := List.length_pos_iff.2 h0
  obtain ⟨g, cp, us, rfl, hBg, hg, hc, hm, cell, rows, _⟩ := o1.row (by rw [rowsN_len]; exact hn)
  rw [rowsN_len] at hc hm cell ⊢
  have C := Lib.hid cell
  have RW := Lib.hid rows
  have hb1 := b1.size
  clear cell rows o1 h0
  go_wp2_with fail
  go_loopg [4, 5] L.length (fun gg s4 s5 wr => ∃ k : Nat, k + gg = L.length ∧ s5 = .int .i64 (k : Int) ∧ OwnR wr w1.heap.size s4 (rowsN ((L.take k).filter (ovT (bl x)))) ∧ Below w1.heap.size w1 wr)
  case atStart => exact ⟨0, by omega, rfl, OwnR.lit0 w1 (Nat.le_refl _), Below.new _ _⟩
  case round =>
    obtain ⟨k, hk, rfl, hown, hB1⟩ := hrel
    by_cases hp : k < L.length
    · obtain ⟨gg, rfl⟩ : ∃ gg, gk = gg + 1 := ⟨gk - 1, by omega⟩
      have k1 : wr.cell? ⟨g, k, none⟩ = some (us.getD k undef) := by rw [(bcell hB1).1 g k hg]; exact C.out k hp
      have hrl := RW.out.1
      rw [rowsN_len] at hrl
      have oI := (RW.out.below hB1).2.1 k (by omega)
      have hrow : (rowsN L).getD k [] = [((L[k]'hp).1 : Int), ((L[k]'hp).2 : Int)] := by rw [getD_at _ _ (by rw [rowsN_len]; exact hp)]; simp [rowsN]
      rw [hrow] at oI
      obtain ⟨gr, cr, hur, _, hgr, hcr, _, cellr, _⟩ := oI.row (by simp)
      have m1 := (HM.out _ (List.getElem_mem hp)).1
      have m2 := (HM.out _ (List.getElem_mem hp)).2
      have HH := Lib.hid (take_filter_hit L (ovT (bl x)) k hp)
      have HI := Lib.hid (take_filter_miss L (ovT (bl x)) k hp)
      have HT : Hid (ovT (bl x) (L[k]'hp) = (decide ((L[k]'hp).1 + 2 * (L[k]'hp).2 < x.size) && decide ((bl x)[(L[k]'hp).1 + 2 * (L[k]'hp).2]? = (bl x)[(L[k]'hp).1]?))) := Lib.hid rfl
      have kr0 : wr.cell? ⟨gr, 0, none⟩ = some (.int .i64 ((L[k]'hp).1 : Int)) := cellr 0 (by simp)
      have kr1 : wr.cell? ⟨gr, 1, none⟩ = some (.int .i64 ((L[k]'hp).2 : Int)) := cellr 1 (by simp)
      rw [hur] at k1
      have hcr2 : 2 ≤ cr := hcr
      clear cellr hcr hrl hrow hur oI
      generalize L[k]'hp = p at *
      obtain ⟨i, q⟩ := p
      have hic : k < cp := by omega
      have m2' : i + 2 * q ≤ x.size := m2
      have m1' : 1 ≤ q := m1
      clear m1 m2
      dsimp only at kr0 kr1
      have k1' : wr.cell? ⟨g, k, none⟩ = some (.slice (some ⟨gr, 0, none⟩) 2 cr) := k1
      clear k1
      by_cases hc1 : i + 2 * q < x.size
      · have z1 : i < x.size := by omega
        have hle := letter_eq x (i + 2 * q) i hc1 z1
        have hix1 : ∀ W, (Instr.index 9 (.string x) (.int .i64 ((i : Int) + 2 * (q : Int)))).run Try.prog W = .ok (.int .u8 ((x[i + 2 * q]'hc1).toNat : Int)) W := fun W => index_at x _ (i + 2 * q) hc1 (by omega) W
        have hix2 : ∀ W, (Instr.index 9 (.string x) (.int .i64 (i : Int))).run Try.prog W = .ok (.int .u8 ((x[i]'z1).toNat : Int)) W := fun W => index_at x _ i z1 rfl W
        generalize (x[i + 2 * q]'hc1).toNat = a at hle hix1
        generalize (x[i]'z1).toNat = b at hle hix2
        have hci : (i : Int) + 2 * (q : Int) < (x.size : Int) := by omega
        by_cases he : a = b
        · have hee : (a : Int) = (b : Int) := by omega
          have HN : Hid ((L.take (k + 1)).filter (ovT (bl x)) = (L.take k).filter (ovT (bl x)) ++ [(i, q)]) := Lib.hid (HH.out (by rw [HT.out, decide_eq_true hc1, decide_eq_true (hle.1 he)]; rfl))
          have hfl : ((L.take k).filter (ovT (bl x))).length ≤ k := Nat.le_trans (List.length_filter_le _ _) (by rw [List.length_take]; omega)
          clear he hle HH HI HT
          go_wp2
          go_quiet (fail)
          have hownD : OwnR (wr.drewN nq) w1.heap.size u4 (rowsN ((L.take k).filter (ovT (bl x)))) := hown
          have hB1D := hB1.drewN nq
          clear hown hB1 k1' kr0 kr1
          generalize wr.drewN nq = wq at hownD hB1D ⊢
          go_wp2
          go_quiet (fail)
          have hown : OwnR (wq.drewN nq) w1.heap.size u4 (rowsN ((L.take k).filter (ovT (bl x)))) := hownD
          have hB1 := hB1D.drewN nq
          clear hownD hB1D
          generalize wq.drewN nq = w2 at hown hB1 ⊢
          obtain ⟨us2, own, rows⟩ := hown
          have hul := rows.1
          rw [rowsN_len] at hul
          have hu36 : us2.length < 3600 := by omega
          have HUL := Lib.hid hul
          have hbz2 := hB1.size
          have ownA := World.ownsRow.alloc (World.ownsRow.alloc own (.cells #[.int .i64 (i : Int), .int .i64 (q : Int)] 2)) (.cells #[.slice (some ⟨w2.heap.size, 0, none⟩) 2 2] 34)
          clear hul hfl
          go_wp2_with (at_builtin; refine wpList_append_own _ rfl _ _ 93 rfl w1.heap.size 34 i0 (.slice none 0 0) 1 24 Try.underlying93 hi hz0 hz1 hz2 rfl (by decide) _ _ _ rfl ownA ⟨_, 0, none⟩ 1 1 [.slice (some ⟨w2.heap.size, 0, none⟩) 2 2] rfl rfl (cell_new1 _ _ _ _) (by intro u hu; simp at hu; subst hu; rfl) (by unfold maxLen; omega) (by omega) (by simp; omega) ?_; intro v' w3 hown' hgrow _)
          have hO := rows_grown own rows hbz2 hown' hgrow
          rw [← rowsN_snoc _ (i, q), ← HN.out] at hO
          have HO := Lib.hid hO
          have hB3 : Below w1.heap.size w1 w3 := ((hB1.alloc hbz2 _).alloc (by simp; omega) _).grown hgrow (by simp; omega) (fun q hq => (own.lt q hq).1)
          clear hO hown' hgrow own rows
          go_roundg gg
          case measure => omega
          case rel => exact ⟨k + 1, by omega, by go_num, HO.out, hB3⟩
        · have hee : ¬ (a : Int) = (b : Int) := by omega
          have HN : Hid ((L.take (k + 1)).filter (ovT (bl x)) = (L.take k).filter (ovT (bl x))) := Lib.hid (HI.out (by rw [HT.out, decide_eq_false (fun h => he (hle.2 h)), Bool.and_false]))
          clear he hle HH HI HT
          go_wp2
          go_quiet (fail)
          have hownD : OwnR (wr.drewN nq) w1.heap.size u4 (rowsN ((L.take k).filter (ovT (bl x)))) := hown
          have hB1D := hB1.drewN nq
          clear hown hB1 k1' kr0 kr1
          generalize wr.drewN nq = wq at hownD hB1D ⊢
          go_wp2
          go_quiet (fail)
          have hown : OwnR (wq.drewN nq) w1.heap.size u4 (rowsN ((L.take k).filter (ovT (bl x)))) := hownD
          have hB1 := hB1D.drewN nq
          clear hownD hB1D
          generalize wq.drewN nq = w2 at hown hB1 ⊢
          go_wp2
          go_roundg gg
          case measure => omega
          case rel => exact ⟨k + 1, by omega, by go_num, by rw [HN.out]; exact hown, hB1⟩
      · have hci : ¬ (i : Int) + 2 * (q : Int) < (x.size : Int) := by omega
        have HN : Hid ((L.take (k + 1)).filter (ovT (bl x)) = (L.take k).filter (ovT (bl x))) := Lib.hid (HI.out (by rw [HT.out, decide_eq_false hc1, Bool.false_and]))
        have hcd : decide ((i : Int) + 2 * (q : Int) < (x.size : Int)) = false := decide_eq_false hci
        clear HH HI HT hc1
        go_wp2
        go_quiet (fail)
        have hownD : OwnR (wr.drewN nq) w1.heap.size u4 (rowsN ((L.take k).filter (ovT (bl x)))) := hown
        have hB1D := hB1.drewN nq
        clear hown hB1 k1' kr0 kr1
        generalize wr.drewN nq = wq at hownD hB1D ⊢
        go_wp2
        go_quiet (fail)
        have hown : OwnR (wq.drewN nq) w1.heap.size u4 (rowsN ((L.take k).filter (ovT (bl x)))) := hownD
        have hB1 := hB1D.drewN nq
        clear hownD hB1D
        generalize wq.drewN nq = w2 at hown hB1 ⊢
        go_wp2
        go_roundg gg
        case measure => omega
        case rel => exact ⟨k + 1, by omega, by go_num, by rw [HN.out]; exact hown, hB1⟩
    · obtain rfl : gk = 0 := by omega
      obtain rfl : k = L.length := by omega
      have HO := Lib.hid hown
      clear hown
      go_wp2
      go_ret
      refine ⟨_, rfl, ?_, b1.then hB1⟩
      have h2 := HO.out
      rw [List.take_length] at h2
      exact h2.base b1.size

/-- Whether a word is overlap free. -/
def iofR (x : ByteArray) : Bool × Int := if ¬ IsW x then (false, 1) else (decide (reps (bl x) (eP 2 1) = []), 0)
theorem iofR_bad {x : ByteArray} (h : ¬ IsW x) : iofR x = (false, 1) := if_pos h
theorem iofR_ok {x : ByteArray} (h : IsW x) : iofR x = (decide (reps (bl x) (eP 2 1) = []), 0) := by unfold iofR; rw [if_neg (not_not_intro h)]
theorem rowsN_zero (L : List (Nat × Nat)) : (rowsN L).length = 0 ↔ L = [] := by rw [rowsN_len, List.length_eq_zero_iff]

set_option maxRecDepth 100000 in
theorem spec_IsOverlapFree (x : ByteArray) (w : World) (sx : x.size ≤ maxLen) :
    Calls Try.prog 39 #[.string x] w fun e w' => e = .returned (.tuple #[.bool (iofR x).1, .int .i64 (iofR x).2]) ∧ Below w.heap.size w w' := by
  by_cases h : IsW x
  · have h1 := h.size
    rw [iofR_ok h]
    have H := Lib.hid h
    clear h
    have CP := Lib.hid fun w => l03Overlaps_any x w h1
    generalize reps (bl x) (eP 2 1) = L at *
    have HZ := Lib.hid (rowsN_zero L)
    generalize rowsN L = R at *
    obtain ⟨n, hn⟩ : ∃ n, R.length = n := ⟨_, rfl⟩
    by_cases hL : L = []
    · have h0 : R.length = 0 := HZ.out.2 hL
      have HN := Lib.hid h0
      rw [decide_eq_true hL]
      clear hn h0 hL
      go_enter Try.func39, Try.ntmps39
      go_wp2_with fail
      refine (l01Is_yes x _ H.out).mono ?_
      rintro e w1 ⟨rfl, b1⟩
      go_wp2_with fail
      refine (CP.out _).mono ?_
      rintro e w2 ⟨v, rfl, o2, b2⟩
      obtain ⟨a, c, rfl⟩ := o2.value
      rw [HN.out]
      go_wp2_with fail
      go_ret2
      exact ⟨rfl, b1.then b2⟩
    · have h0 : ¬ n = 0 := fun e => hL (HZ.out.1 (by rw [hn]; exact e))
      have HN := Lib.hid hn
      have hne : ((n : Int) == 0) = false := by rw [beq_eq_false_iff_ne]; omega
      have HE := Lib.hid hne
      rw [decide_eq_false hL]
      clear hn hL
      go_enter Try.func39, Try.ntmps39
      go_wp2_with fail
      refine (l01Is_yes x _ H.out).mono ?_
      rintro e w1 ⟨rfl, b1⟩
      go_wp2_with fail
      refine (CP.out _).mono ?_
      rintro e w2 ⟨v, rfl, o2, b2⟩
      obtain ⟨a, c, rfl⟩ := o2.value
      rw [HN.out]
      go_wp2_with fail
      go_ret2
      exact ⟨by first | rfl | simp, b1.then b2⟩
  · rw [iofR_bad h]
    have H := Lib.hid h
    clear h
    go_enter Try.func39, Try.ntmps39
    go_wp2_with fail
    refine (l01Is_no x _ sx H.out).mono ?_
    rintro e w1 ⟨rfl, b1⟩
    go_wp2_with fail
    go_ret2
    exact ⟨rfl, b1⟩

set_option maxRecDepth 100000 in
theorem impl_IsOverlapFree (x : ByteArray) (w : World) (sx : x.size ≤ maxLen) :
    Calls Try.prog 28 #[.string x] w fun e w' => e = .returned (.tuple #[.bool (iofR x).1, .int .i64 (iofR x).2]) ∧ Below w.heap.size w w' := by
  have CP := Lib.hid fun w => impl_OverlapsIn x w sx
  by_cases h : IsW x
  · rw [iofR_ok h]
    rw [overlapsR_ok h] at CP
    clear h
    generalize reps (bl x) (eP 2 1) = L at *
    have HZ := Lib.hid (rowsN_zero L)
    generalize rowsN L = R at *
    obtain ⟨n, hn⟩ : ∃ n, R.length = n := ⟨_, rfl⟩
    by_cases hL : L = []
    · have h0 : R.length = 0 := HZ.out.2 hL
      have HN := Lib.hid h0
      rw [decide_eq_true hL]
      clear hn h0 hL
      go_enter Try.func28, Try.ntmps28
      go_wp2_with fail
      refine (CP.out _).mono ?_
      rintro e w2 ⟨v, rfl, o2, b2⟩
      obtain ⟨a, c, rfl⟩ := o2.value
      rw [HN.out]
      go_wp2_with fail
      go_ret2
      exact ⟨rfl, b2⟩
    · have h0 : ¬ n = 0 := fun e => hL (HZ.out.1 (by rw [hn]; exact e))
      have HN := Lib.hid hn
      have hne : ((n : Int) == 0) = false := by rw [beq_eq_false_iff_ne]; omega
      rw [decide_eq_false hL]
      clear hn hL
      go_enter Try.func28, Try.ntmps28
      go_wp2_with fail
      refine (CP.out _).mono ?_
      rintro e w2 ⟨v, rfl, o2, b2⟩
      obtain ⟨a, c, rfl⟩ := o2.value
      rw [HN.out]
      go_simp
      go_wp2_with fail
      go_ret2
      exact ⟨by first | rfl | simp, b2⟩
  · rw [iofR_bad h]
    rw [overlapsR_bad h] at CP
    clear h
    go_enter Try.func28, Try.ntmps28
    go_wp2_with fail
    refine (CP.out _).mono ?_
    rintro e w2 ⟨v, rfl, o2, b2⟩
    obtain ⟨a, c, rfl⟩ := o2.value
    go_wp2_with fail
    go_ret2
    exact ⟨rfl, b2⟩

end Go.Proofs.Ythjbdcoklgnnlab
