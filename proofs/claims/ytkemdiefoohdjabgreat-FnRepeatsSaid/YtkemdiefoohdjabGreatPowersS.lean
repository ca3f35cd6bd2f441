/- All powers of a word, and all overlaps: the model. -/
import Derived.Test.YtkemdiefoohdjabGreatRows2
import Derived.Test.YtkemdiefoohdjabGreatRepPlain
import Derived.Test.YtkemdiefoohdjabGreatSq
namespace Go.Proofs.YtkemdiefoohdjabGreat
set_option linter.unusedVariables false
set_option linter.unusedSimpArgs false
open Go.RowKit

/-- One row of two numbers more: what the walk owes. -/
theorem rows_grown {W w3 : World} {base : Nat} {v v' : Value} {us : List Value} {L : List (List Int)} {i q : Int} {tmp : Obj}
    (own : W.ownsRow base 42 1 v us.length us) (rows : RowsIn W base us L) (hb : base ≤ W.heap.size)
    (hown' : w3.ownsRow base 42 1 v' (us.length + 1) (us ++ [.slice (some ⟨W.heap.size, 0, none⟩) 2 2]))
    (hgrow : ((W.alloc (.cells #[.int .i64 i, .int .i64 q] 2)).alloc tmp).grownBy w3 v.ownBlock) : OwnR w3 base v' (L ++ [[i, q]]) := by
  have hB : Below W.heap.size W ((W.alloc (.cells #[.int .i64 i, .int .i64 q] 2)).alloc tmp) := (Below.new _ _).alloc (by simp) _
  have r1 := rows.below hB
  have o1 : OwnI (W.alloc (.cells #[.int .i64 i, .int .i64 q] 2)) base (.slice (some ⟨W.heap.size, 0, none⟩) 2 2) [i, q] := own_base (World.ownsRow_lit W #[.int .i64 i, .int .i64 q] 2 (Nat.le_refl _) (by decide) (by simp)) hb
  have o2 := o1.below (Below.new _ tmp)
  have own2 := own_below own hB
  have r2 : RowsIn w3 base us L := r1.other hgrow fun j hj k hk c => own_apart (r1.2.1 j hj) own2 (by decide) hk c
  have o3 : OwnI w3 base (.slice (some ⟨W.heap.size, 0, none⟩) 2 2) [i, q] := own_other o2 hgrow fun k hk c => own_apart o2 own2 (by decide) hk c
  refine ⟨us ++ [.slice (some ⟨W.heap.size, 0, none⟩) 2 2], by rw [List.length_append]; exact hown', r2.snoc o3 (b := W.heap.size) (fun j hj k hk => (rows.lt j hj k hk).2) (fun k hk => ?_)⟩
  have : W.heap.size = k := Option.some.inj hk
  omega

theorem cell_new1 (W : World) (o : Obj) (v : Value) (t : TypeId) : ∀ j u, [v][j]? = some u → ((W.alloc o).alloc (.cells #[v] t)).cell? ((⟨W.heap.size + 1, 0, none⟩ : Addr).add j) = some u := by
  have := cell_new (W.alloc o) v t
  rwa [World.size_alloc] at this

theorem rowsN_tot (L : List (Nat × Nat)) : totR (rowsN L) = 2 * L.length := by
  induction L with
  | nil => rfl
  | cons p t ih =>
    have : totR (rowsN (p :: t)) = 2 + totR (rowsN t) := by simp [totR, rowsN]
    rw [this, ih, List.length_cons]
    omega
theorem powersR_len (x : ByteArray) (k : Int) : (powersR x k).1.length ≤ 3600 := by
  by_cases h : IsW x
  · by_cases hk : k < 2 ∨ 60 < k
    · rw [powersR_out h hk]; decide
    · obtain ⟨n, rfl⟩ := Int.eq_ofNat_of_zero_le (show 0 ≤ k by omega)
      rw [powersR_ok h hk]
      show (rowsN _).length ≤ 3600
      rw [rowsN_len]
      exact reps_short _ h.size
  · rw [powersR_bad h]; decide
theorem powersR_tot (x : ByteArray) (k : Int) : totR (powersR x k).1 ≤ 7200 := by
  by_cases h : IsW x
  · by_cases hk : k < 2 ∨ 60 < k
    · rw [powersR_out h hk]; decide
    · obtain ⟨n, rfl⟩ := Int.eq_ofNat_of_zero_le (show 0 ≤ k by omega)
      rw [powersR_ok h hk]
      have := reps_short (l := bl x) (eP n 0) h.size
      show totR (rowsN _) ≤ 7200
      rw [rowsN_tot]
      omega
  · rw [powersR_bad h]; decide
theorem overlapsR_len (x : ByteArray) : (overlapsR x).1.length ≤ 3600 := by
  by_cases h : IsW x
  · rw [overlapsR_ok h]
    show (rowsN _).length ≤ 3600
    rw [rowsN_len]
    exact reps_short _ h.size
  · rw [overlapsR_bad h]; decide
theorem overlapsR_tot (x : ByteArray) : totR (overlapsR x).1 ≤ 7200 := by
  by_cases h : IsW x
  · rw [overlapsR_ok h]
    have := reps_short (l := bl x) (eP 2 1) h.size
    show totR (rowsN _) ≤ 7200
    rw [rowsN_tot]
    omega
  · rw [overlapsR_bad h]; decide
set_option maxRecDepth 100000 in
set_option maxHeartbeats 2000000 in
theorem l03Powers_any (x : ByteArray) (k : Nat) (w : World) (hx : x.size ≤ 60) (k1 : 2 ≤ k) (k2 : k ≤ 60) :
    Calls Tryz.prog 36 #[.string x, .int .i64 (k : Int)] w fun e w' => ∃ v, e = .returned v ∧ OwnR w' w.heap.size v (rowsN (reps (bl x) (eP k 0))) ∧ Below w.heap.size w w' := by
  obtain ⟨i0, hi, hz0, hz1, hz2⟩ := info_parts infoSI
  obtain ⟨R, hR⟩ : ∃ R, reps (bl x) (eP k 0) = R := ⟨_, rfl⟩
  rw [hR]
  have HR0 : Hid (rall (bl x) (eP k 0) 0 x.size = R) := Lib.hid hR
  have HRL : Hid (R.length ≤ 3600) := Lib.hid (by rw [← hR]; exact reps_short _ hx)
  clear hR
  go_enter Tryz.func36, Tryz.ntmps36
  go_wp2
  go_loopg [5, 7] x.size (fun g s5 s7 wr => ∃ (i : Nat) (pre : List (Nat × Nat)), i + g = x.size ∧ s7 = .int .i64 (i : Int) ∧ OwnR wr w.heap.size s5 (rowsN pre) ∧ Below w.heap.size w wr ∧ Hid (pre ++ rall (bl x) (eP k 0) i g = R))
  case atStart => exact ⟨0, [], by omega, rfl, OwnR.lit0 w (Nat.le_refl _), Below.new _ _, HR0⟩
  case round =>
    obtain ⟨i, pre, hg, rfl, hown, hB, HR⟩ := hrel
    clear HR0
    by_cases hp : i < x.size
    · obtain ⟨g, rfl⟩ : ∃ g, gk = g + 1 := ⟨gk - 1, by omega⟩
      have HR1 : Hid (pre ++ rrow (bl x) (eP k 0) i 1 x.size ++ rall (bl x) (eP k 0) (i + 1) g = R) := Lib.hid (by rw [List.append_assoc]; exact HR.out)
      go_wp2
      go_loopg [5, 8] x.size (fun g2 s5 s8 wr => ∃ (q : Nat) (pre : List (Nat × Nat)), 0 < q ∧ q + g2 = x.size + 1 ∧ s8 = .int .i64 (q : Int) ∧ OwnR wr w.heap.size s5 (rowsN pre) ∧ Below w.heap.size w wr ∧ Hid (pre ++ rrow (bl x) (eP k 0) i q g2 ++ rall (bl x) (eP k 0) (i + 1) g = R))
      case atStart => exact ⟨1, pre, by omega, by omega, rfl, hown, hB, HR1⟩
      case round =>
        clear hown hB HR HR1
        obtain ⟨q, pre2, hq, hg2, rfl, hown, hB, HR⟩ := hrel
        obtain ⟨P, hP⟩ : ∃ P, q * k = P := ⟨_, rfl⟩
        have hPi : (q : Int) * (k : Int) = (P : Int) := by rw [← hP]; exact (Int.natCast_mul q k).symm
        have hPq : q ≤ P := by rw [← hP]; exact Nat.le_mul_of_pos_right q (by omega)
        have hPl : P ≤ 4000 := by rw [← hP]; exact Nat.le_trans (Nat.mul_le_mul (show q ≤ 61 by omega) k2) (by decide)
        have hPe : P - q = eP k 0 q := by
          unfold eP
          rw [← hP, Nat.add_zero, Nat.sub_mul, Nat.one_mul, Nat.mul_comm k q]
        have HPE := Lib.hid hPe
        clear hPe hP
        by_cases hc : i + P ≤ x.size
        · obtain ⟨g2, rfl⟩ : ∃ g2, gk = g2 + 1 := ⟨gk - 1, by omega⟩
          have CP := fun w => l03Power_any x i q P (k : Int) w (by omega) (by omega) hq (by omega) (by omega) (by omega) hPi hPq hPl
          rw [HPE.out] at CP
          have hP0 : (0 : Int) ≤ (q : Int) * (k : Int) := by omega
          have hci : (i : Int) + (P : Int) ≤ (x.size : Int) := by omega
          by_cases he : repB (bl x) i q (eP k 0 q) = true
          · have HN : Hid (pre2 ++ [(i, q)] ++ rrow (bl x) (eP k 0) i (q + 1) g2 ++ rall (bl x) (eP k 0) (i + 1) g = R) := Lib.hid (by rw [← HR.out, rrow_hit he]; simp)
            have HL : Hid (pre2.length < 3600) := Lib.hid (by
              have h1 := HRL.out
              have h2 := congrArg List.length HN.out
              simp only [List.length_append, List.length_cons, List.length_nil] at h2
              omega)
            rw [he] at CP
            have CP2 := Lib.hid CP
            clear he CP
            go_wp2_with fail
            refine (CP2.out _).mono ?_
            rintro e w2 ⟨rfl, b2⟩
            obtain ⟨us, own, rows⟩ := hown.below b2
            have hB2 := hB.then b2
            have hbz2 := hB2.size
            have hul := rows.1
            rw [rowsN_len] at hul
            have hu36 : us.length < 3600 := by have := HL.out; omega
            have HUL := Lib.hid hul
            clear hown hB b2 hul
            have ownA := World.ownsRow.alloc (World.ownsRow.alloc own (.cells #[.int .i64 (i : Int), .int .i64 (q : Int)] 2)) (.cells #[.slice (some ⟨w2.heap.size, 0, none⟩) 2 2] 42)
            go_wp2_with (at_builtin; refine wpList_append_own _ rfl _ _ 28 rfl w.heap.size 42 i0 (.slice none 0 0) 1 24 Tryz.underlying28 hi hz0 hz1 hz2 rfl (by decide) _ _ _ rfl ownA ⟨_, 0, none⟩ 1 1 [.slice (some ⟨w2.heap.size, 0, none⟩) 2 2] rfl rfl (cell_new1 _ _ _ _) (by intro u hu; simp at hu; subst hu; rfl) (by unfold maxLen; omega) (by omega) (by simp; omega) ?_; intro v' w3 hown' hgrow _)
            have hO := rows_grown own rows hbz2 hown' hgrow
            rw [← rowsN_snoc pre2 (i, q)] at hO
            have HO := Lib.hid hO
            have hB3 : Below w.heap.size w w3 := ((hB2.alloc hbz2 _).alloc (by simp; omega) _).grown hgrow (by simp; omega) (fun q hq => (own.lt q hq).1)
            clear hO hown' hgrow own rows
            go_roundg g2
            case measure => omega
            case rel => exact ⟨q + 1, pre2 ++ [(i, q)], by omega, by omega, by go_num, HO.out, hB3, HN⟩
          · have he2 : repB (bl x) i q (eP k 0 q) = false := by simpa using he
            have HN : Hid (pre2 ++ rrow (bl x) (eP k 0) i (q + 1) g2 ++ rall (bl x) (eP k 0) (i + 1) g = R) := Lib.hid (by rw [← HR.out, rrow_miss he2])
            rw [he2] at CP
            have CP2 := Lib.hid CP
            clear he he2 CP
            go_wp2_with fail
            refine (CP2.out _).mono ?_
            rintro e w2 ⟨rfl, b2⟩
            go_wp2_with fail
            go_roundg g2
            case measure => omega
            case rel => exact ⟨q + 1, pre2, by omega, by omega, by go_num, hown.below b2, hB.then b2, HN⟩
        · have hci : ¬ (i : Int) + (P : Int) ≤ (x.size : Int) := by omega
          have hP0 : (0 : Int) ≤ (q : Int) * (k : Int) := by omega
          have HN : Hid (pre2 ++ rall (bl x) (eP k 0) (i + 1) g = R) := Lib.hid (by
            rw [← HR.out, rrow_stop _ (by rw [← HPE.out, bl_len]; omega), List.append_nil])
          go_wp2
          go_roundg g
          case measure => omega
          case rel => exact ⟨i + 1, pre2, by omega, by go_num, hown, hB, HN⟩
    · obtain rfl : gk = 0 := by omega
      have HV : Hid (pre = R) := Lib.hid (by rw [← HR.out, rall, List.append_nil])
      go_wp2
      go_ret
      rw [← HV.out]
      exact ⟨_, rfl, hown, hB⟩

set_option maxRecDepth 100000 in
theorem spec_PowersIn (x : ByteArray) (k : Int) (w : World) (sx : x.size ≤ maxLen) (wk : (Lit.int .i64 k).wf = true) :
    Calls Tryz.prog 9 #[.string x, .int .i64 k] w (RetR (powersR x k).1 (powersR x k).2 w) := by
  by_cases h : IsW x
  · have h1 := h.size
    by_cases hk : k < 2 ∨ 60 < k
    · rw [powersR_out h hk]
      have H := Lib.hid h
      have HK := Lib.hid hk
      clear h hk
      go_enter Tryz.func9, Tryz.ntmps9
      go_wp2_with fail
      refine (l01Is_yes x _ H.out).mono ?_
      rintro e w1 ⟨rfl, b1⟩
      go_wp2_with fail
      refine (l01In_no _ _ _ _ (by have := HK.out; omega)).mono ?_
      rintro e w2 ⟨rfl, b2⟩
      go_wp2_with fail
      go_ret2
      exact ⟨_, rfl, OwnR.nil _ _, b1.then b2⟩
    · obtain ⟨n, rfl⟩ := Int.eq_ofNat_of_zero_le (show 0 ≤ k by omega)
      rw [powersR_ok h hk]
      have n1 : 2 ≤ n := by omega
      have n2 : n ≤ 60 := by omega
      have H := Lib.hid h
      clear h hk
      go_enter Tryz.func9, Tryz.ntmps9
      go_wp2_with fail
      refine (l01Is_yes x _ H.out).mono ?_
      rintro e w1 ⟨rfl, b1⟩
      go_wp2_with fail
      refine (l01In_yes _ _ _ _ (by omega) (by omega)).mono ?_
      rintro e w2 ⟨rfl, b2⟩
      go_wp2_with fail
      refine (l03Powers_any x n _ h1 n1 n2).mono ?_
      rintro e w3 ⟨v, rfl, o3, b3⟩
      have B2 := b1.then b2
      go_wp2_with fail
      go_ret2
      exact ⟨_, rfl, o3.base B2.size, B2.then b3⟩
  · rw [powersR_bad h]
    have H := Lib.hid h
    clear h
    go_enter Tryz.func9, Tryz.ntmps9
    go_wp2_with fail
    refine (l01Is_no x _ sx H.out).mono ?_
    rintro e w1 ⟨rfl, b1⟩
    go_wp2_with fail
    go_ret2
    exact ⟨_, rfl, OwnR.nil _ _, b1⟩

def countPR (x : ByteArray) (k : Int) : Int × Int := (((powersR x k).1.length : Int), (powersR x k).2)

set_option maxRecDepth 100000 in
theorem spec_CountPowers (x : ByteArray) (k : Int) (w : World) (sx : x.size ≤ maxLen) (wk : (Lit.int .i64 k).wf = true) :
    Calls Tryz.prog 24 #[.string x, .int .i64 k] w fun e w' => e = .returned (.tuple #[.int .i64 (countPR x k).1, .int .i64 (countPR x k).2]) ∧ Below w.heap.size w w' := by
  unfold countPR
  by_cases h : IsW x
  · have h1 := h.size
    by_cases hk : k < 2 ∨ 60 < k
    · rw [powersR_out h hk]
      have H := Lib.hid h
      have HK := Lib.hid hk
      clear h hk
      go_enter Tryz.func24, Tryz.ntmps24
      go_wp2_with fail
      refine (l01Is_yes x _ H.out).mono ?_
      rintro e w1 ⟨rfl, b1⟩
      go_wp2_with fail
      refine (l01In_no _ _ _ _ (by have := HK.out; omega)).mono ?_
      rintro e w2 ⟨rfl, b2⟩
      go_wp2_with fail
      go_ret2
      exact ⟨rfl, b1.then b2⟩
    · obtain ⟨n, rfl⟩ := Int.eq_ofNat_of_zero_le (show 0 ≤ k by omega)
      rw [powersR_ok h hk]
      have n1 : 2 ≤ n := by omega
      have n2 : n ≤ 60 := by omega
      have H := Lib.hid h
      clear h hk
      have CP := Lib.hid fun w => l03Powers_any x n w h1 n1 n2
      generalize rowsN (reps (bl x) (eP n 0)) = L at *
      go_enter Tryz.func24, Tryz.ntmps24
      go_wp2_with fail
      refine (l01Is_yes x _ H.out).mono ?_
      rintro e w1 ⟨rfl, b1⟩
      go_wp2_with fail
      refine (l01In_yes _ _ _ _ (by omega) (by omega)).mono ?_
      rintro e w2 ⟨rfl, b2⟩
      go_wp2_with fail
      refine (CP.out _).mono ?_
      rintro e w3 ⟨v, rfl, o3, b3⟩
      have B2 := b1.then b2
      obtain ⟨a, c, rfl⟩ := o3.value
      go_wp2_with fail
      go_ret2
      exact ⟨rfl, B2.then b3⟩
  · rw [powersR_bad h]
    have H := Lib.hid h
    clear h
    go_enter Tryz.func24, Tryz.ntmps24
    go_wp2_with fail
    refine (l01Is_no x _ sx H.out).mono ?_
    rintro e w1 ⟨rfl, b1⟩
    go_wp2_with fail
    go_ret2
    exact ⟨rfl, b1⟩

end Go.Proofs.YtkemdiefoohdjabGreat
