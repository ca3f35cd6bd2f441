/- Images and iterates: the model. -/
import Derived.Test.YtjneebhbgogppaaImg
namespace Go.Proofs.Ytjneebhbgogppaa
set_option linter.unusedVariables false
set_option linter.unusedSimpArgs false
open Go.RowKit

theorem l06Code_is (B : Nat) (v : Value) (I : List (List UInt8)) (x : ByteArray) (w : World) (h : OwnS w B v (I.map bt)) (t : Tot I) (sx : x.size ≤ maxLen) (c : Int) (hc : mwC I x = c) :
    Calls Try.prog 56 #[.agg #[v], .string x] w fun e w' => e = .returned (.int .i64 c) ∧ Below w.heap.size w w' := by
  have := l06Code_any B v I x w h t sx
  unfold mwAns at this
  rw [hc] at this
  exact this
theorem checkWord_is (B : Nat) (v : Value) (I : List (List UInt8)) (x : ByteArray) (w : World) (h : OwnS w B v (I.map bt)) (t : Tot I) (sx : x.size ≤ maxLen) (c : Int) (hc : mwC I x = c) :
    Calls Try.prog 59 #[.agg #[v], .string x] w fun e w' => e = .returned (.int .i64 c) ∧ Below w.heap.size w w' := by
  have := checkWord_any B v I x w h t sx
  unfold mwAns at this
  rw [hc] at this
  exact this

set_option maxRecDepth 100000 in
theorem l01In_yesM (n lo hi : Int) (w : World) (h1 : lo ≤ n) (h2 : n ≤ hi) :
    Calls Try.prog 58 #[.int .i64 n, .int .i64 lo, .int .i64 hi] w fun e w' => e = .returned (.bool true) ∧ w = w' := by
  go_enter Try.func58, Try.ntmps58
  go_wp2
  go_ret
  exact ⟨ret_bool (by simp [*]), rfl⟩

set_option maxRecDepth 100000 in
theorem l01In_noM (n lo hi : Int) (w : World) (h : ¬ (lo ≤ n ∧ n ≤ hi)) :
    Calls Try.prog 58 #[.int .i64 n, .int .i64 lo, .int .i64 hi] w fun e w' => e = .returned (.bool false) ∧ w = w' := by
  by_cases h1 : lo ≤ n
  · have h2 : hi < n := by omega
    clear h
    go_enter Try.func58, Try.ntmps58
    go_wp2
    go_ret
    exact ⟨ret_bool (by simp <;> omega), rfl⟩
  · have h2 : n < lo := by omega
    clear h h1
    go_enter Try.func58, Try.ntmps58
    go_wp2
    go_ret
    exact ⟨ret_bool (by simp <;> omega), rfl⟩

set_option maxRecDepth 100000 in
set_option maxHeartbeats 1000000 in
theorem spec_ImageOf (B : Nat) (v : Value) (I : List (List UInt8)) (x : ByteArray) (w : World) (h : OwnS w B v (I.map bt)) (t : Tot I) (sx : x.size ≤ maxLen) :
    Calls Try.prog 20 #[.agg #[v], .string x] w fun e w' => e = .returned (.tuple #[.string (iterR I x 1).1, .int .i64 (iterR I x 1).2]) ∧ Below w.heap.size w w' := by
  obtain ⟨p, c, hv⟩ := ownS_value h
  rw [List.length_map] at hv
  subst hv
  have hI := t.1
  have BN : Below w.heap.size w (w.alloc (.cells #[.slice p I.length c] 27)) := Below.new _ _
  have QN : Boxed (w.alloc (.cells #[.slice p I.length c] 27)) w.heap.size 27 (.slice p I.length c) := Boxed.new _ _ _
  have HBN := Lib.hid BN
  have HQN := Lib.hid QN
  have H := Lib.hid (h.below BN)
  clear BN QN h
  by_cases g : Mor I ∧ IsW x
  · by_cases hf : Few I.length x
    · have hx60 : (lts x).length ≤ 60 := by rw [lt_len]; exact g.2.size
      have hl := lets_of g.2 hf
      have c1 := fun W h => l06Code_is B (.slice p I.length c) I x W h t sx 0 (mwC_ok g hf)
      have c2 := fun W h => l06Image_any B (.slice p I.length c) I (lts x) x W h g.1 (bt_lt x).symm hl hx60
      have hlen := imgOf_len g.1 hl
      have hbs : (bt (imgOf I (lts x))).size = (imgOf I (lts x)).length := rfl
      by_cases h60 : 60 < (imgOf I (lts x)).length
      · rw [show (1 : Int) = ((1 : Nat) : Int) from rfl, iterR_none g hf (by omega) (itr_long h60)]
        generalize bt (imgOf I (lts x)) = y at c2 hbs
        have hy : 60 < y.size := by omega
        have hy2 : y.size ≤ 720 := by omega
        have C1 := Lib.hid c1
        have C2 := Lib.hid c2
        clear c1 c2 hbs h60 hlen hl hf g
        go_enter Try.func20, Try.ntmps20
        go_wp2_with fail
        refine (C1.out _ H.out).mono ?_
        rintro e w1 ⟨rfl, b1⟩
        have kq := (boxed_later HQN.out b1).cell
        have B1 := HBN.out.then b1
        go_wp2_with fail
        refine (C2.out _ (H.out.below b1)).mono ?_
        rintro e w2 ⟨rfl, b2⟩
        have B2 := B1.then b2
        go_wp2_with fail
        go_ret2
        exact ⟨rfl, B2⟩
      · rw [show (1 : Int) = ((1 : Nat) : Int) from rfl, iterR_some g hf (by omega) (itr_one h60)]
        generalize bt (imgOf I (lts x)) = y at c2 hbs ⊢
        have hy : y.size ≤ 60 := by omega
        have C1 := Lib.hid c1
        have C2 := Lib.hid c2
        clear c1 c2 hbs h60 hlen hl hf g
        go_enter Try.func20, Try.ntmps20
        go_wp2_with fail
        refine (C1.out _ H.out).mono ?_
        rintro e w1 ⟨rfl, b1⟩
        have kq := (boxed_later HQN.out b1).cell
        have B1 := HBN.out.then b1
        go_wp2_with fail
        refine (C2.out _ (H.out.below b1)).mono ?_
        rintro e w2 ⟨rfl, b2⟩
        have B2 := B1.then b2
        go_wp2_with fail
        go_ret2
        exact ⟨rfl, B2⟩
    · rw [iterR_out g (.inl hf)]
      have c1 := fun W h => l06Code_is B (.slice p I.length c) I x W h t sx 2 (mwC_out g hf)
      have C1 := Lib.hid c1
      clear c1
      go_enter Try.func20, Try.ntmps20
      go_wp2_with fail
      refine (C1.out _ H.out).mono ?_
      rintro e w1 ⟨rfl, b1⟩
      have B1 := HBN.out.then b1
      go_wp2_with fail
      go_ret2
      exact ⟨rfl, B1⟩
  · rw [iterR_bad g]
    have c1 := fun W h => l06Code_is B (.slice p I.length c) I x W h t sx 1 (mwC_bad g)
    have C1 := Lib.hid c1
    clear c1
    go_enter Try.func20, Try.ntmps20
    go_wp2_with fail
    refine (C1.out _ H.out).mono ?_
    rintro e w1 ⟨rfl, b1⟩
    have B1 := HBN.out.then b1
    go_wp2_with fail
    go_ret2
    exact ⟨rfl, B1⟩

set_option maxRecDepth 100000 in
set_option maxHeartbeats 1000000 in
theorem spec_IterateOf (B : Nat) (v : Value) (I : List (List UInt8)) (x : ByteArray) (k : Int) (w : World) (h : OwnS w B v (I.map bt)) (t : Tot I) (sx : x.size ≤ maxLen) (wk : (Lit.int .i64 k).wf = true) :
    Calls Try.prog 22 #[.agg #[v], .string x, .int .i64 k] w fun e w' => e = .returned (.tuple #[.string (iterR I x k).1, .int .i64 (iterR I x k).2]) ∧ Below w.heap.size w w' := by
  obtain ⟨p, c, hv⟩ := ownS_value h
  rw [List.length_map] at hv
  subst hv
  have hI := t.1
  have BN : Below w.heap.size w (w.alloc (.cells #[.slice p I.length c] 27)) := Below.new _ _
  have QN : Boxed (w.alloc (.cells #[.slice p I.length c] 27)) w.heap.size 27 (.slice p I.length c) := Boxed.new _ _ _
  have HBN := Lib.hid BN
  have HQN := Lib.hid QN
  have H := Lib.hid (h.below BN)
  clear BN QN h
  by_cases g : Mor I ∧ IsW x
  · by_cases hf : Few I.length x
    · by_cases hk : 0 ≤ k ∧ k ≤ 100
      · obtain ⟨n, rfl⟩ := Int.eq_ofNat_of_zero_le hk.1
        have hn : n ≤ 100 := by omega
        have hx60 : (lts x).length ≤ 60 := by rw [lt_len]; exact g.2.size
        have hl := lets_of g.2 hf
        have c1 := fun W h => l06Code_is B (.slice p I.length c) I x W h t sx 0 (mwC_ok g hf)
        have c2 := fun l y W h hy hl h60 => l06Image_any B (.slice p I.length c) I l y W h g.1 hy hl h60
        have c3 := fun W => l01In_yesM (n : Int) 0 100 W (by omega) (by omega)
        obtain ⟨R, hR⟩ : ∃ R, iterR I x (n : Int) = R := ⟨_, rfl⟩
        rw [hR]
        have HRN := Lib.hid (fun (h : itr I n (lts x) = none) => (hR.symm.trans (iterR_none g hf hn h) : R = (⟨#[]⟩, 3)))
        have HRS := Lib.hid (fun l (h : itr I n (lts x) = some l) => (hR.symm.trans (iterR_some g hf hn h) : R = (bt l, 0)))
        have G := Lib.hid g.1
        have C1 := Lib.hid c1
        have C2 := Lib.hid c2
        have C3 := Lib.hid c3
        have HL := Lib.hid hl
        have HX := Lib.hid (bt_lt x).symm
        have hxs : x.size ≤ 60 := g.2.size
        clear c1 c2 c3 hl hf g hR hk
        go_enter Try.func22, Try.ntmps22
        go_wp2_with fail
        refine (C1.out _ H.out).mono ?_
        rintro e w1 ⟨rfl, b1⟩
        have q1 := boxed_later HQN.out b1
        have o1 := H.out.below b1
        have B1 := HBN.out.then b1
        have Q1 := Lib.hid q1
        have O1 := Lib.hid o1
        clear q1 o1
        go_wp2_with fail
        refine (C3.out _).mono ?_
        rintro e w2 ⟨rfl, rfl⟩
        go_wp2_with fail
        go_loopw [1, 2] (fun s q wr => ∃ (j : Nat) (y : ByteArray) (l : List UInt8), j ≤ n ∧ q = .int .i64 (j : Int) ∧ s = .string y ∧ Hid (y = bt l) ∧ Hid (lets I l) ∧ l.length ≤ 60 ∧ Hid (itr I j l = itr I n (lts x)) ∧ Below w1.heap.size w1 wr) (fun _ q _ => (intOf q).toNat)
        case atStart => exact ⟨n, x, lts x, Nat.le_refl _, rfl, rfl, HX, HL, hx60, Lib.hid rfl, Below.refl _ _⟩
        case round =>
          obtain ⟨j, y, l, hj, rfl, rfl, HY, HLL, hll, HI, hB⟩ := hrel
          have BW := B1.then hB
          have kq := (boxed_later Q1.out hB).cell
          by_cases hj0 : 0 < j
          · obtain ⟨m, rfl⟩ : ∃ m, j = m + 1 := ⟨j - 1, by omega⟩
            have hm1 : ((m + 1 : Nat) : Int) - 1 = (m : Int) := by omega
            have hlen := imgOf_len G.out HLL.out
            have c4 := fun W h => C2.out l y W h HY.out HLL.out hll
            have hbs : (bt (imgOf I l)).size = (imgOf I l).length := rfl
            have hbe : Hid (bt (imgOf I l) = bt (imgOf I l)) := Lib.hid rfl
            by_cases h60 : 60 < (imgOf I l).length
            · have HV := Lib.hid (HRN.out (by rw [← HI.out, itr_long h60]))
              generalize bt (imgOf I l) = z at c4 hbs
              have hz : 60 < z.size := by omega
              have hz2 : z.size ≤ 720 := by omega
              have C4 := Lib.hid c4
              clear c4 hbs h60 hlen hm1 hbe
              go_wp2_with fail
              refine (C4.out _ (O1.out.below hB)).mono ?_
              rintro e w2 ⟨rfl, b2⟩
              go_wp2_with fail
              go_ret2
              exact ⟨by rw [HV.out]; rfl, BW.then b2⟩
            · have HI2 := Lib.hid ((itr_step h60).symm.trans HI.out)
              have HL2 := Lib.hid (imgOf_lets G.out HLL.out)
              have hl2 : (imgOf I l).length ≤ 60 := by omega
              generalize hz0 : bt (imgOf I l) = z at c4 hbs
              have HZ := Lib.hid hz0.symm
              have hz : z.size ≤ 60 := by omega
              have C4 := Lib.hid c4
              have HM := Lib.hid hm1
              clear c4 hbs h60 hlen hz0 hm1 hbe
              go_wp2_with fail
              refine (C4.out _ (O1.out.below hB)).mono ?_
              rintro e w2 ⟨rfl, b2⟩
              go_wp2_with fail
              go_roundw
              case rel => exact ⟨m, z, imgOf I l, by omega, by go_num, rfl, HZ, HL2, hl2, HI2, hB.then b2⟩
              case measure => simp [intOf]
          · have hj1 : j = 0 := by omega
            subst hj1
            have HV := Lib.hid (HRS.out l (by rw [← HI.out]; rfl))
            go_wp2_with fail
            go_ret2
            exact ⟨by rw [HV.out]; show _ = Ending.returned (.tuple #[.string (bt l), .int .i64 0]); rw [← HY.out]; rfl, BW⟩
      · rw [iterR_out g (.inr (by omega))]
        have c1 := fun W h => l06Code_is B (.slice p I.length c) I x W h t sx 0 (mwC_ok g hf)
        have c3 := fun W => l01In_noM k 0 100 W (by omega)
        have C1 := Lib.hid c1
        have C3 := Lib.hid c3
        clear c1 c3 hk
        go_enter Try.func22, Try.ntmps22
        go_wp2_with fail
        refine (C1.out _ H.out).mono ?_
        rintro e w1 ⟨rfl, b1⟩
        have B1 := HBN.out.then b1
        go_wp2_with fail
        refine (C3.out _).mono ?_
        rintro e w2 ⟨rfl, rfl⟩
        go_wp2_with fail
        go_ret2
        exact ⟨rfl, B1⟩
    · rw [iterR_out g (.inl hf)]
      have c1 := fun W h => l06Code_is B (.slice p I.length c) I x W h t sx 2 (mwC_out g hf)
      have C1 := Lib.hid c1
      clear c1
      go_enter Try.func22, Try.ntmps22
      go_wp2_with fail
      refine (C1.out _ H.out).mono ?_
      rintro e w1 ⟨rfl, b1⟩
      have B1 := HBN.out.then b1
      go_wp2_with fail
      go_ret2
      exact ⟨rfl, B1⟩
  · rw [iterR_bad g]
    have c1 := fun W h => l06Code_is B (.slice p I.length c) I x W h t sx 1 (mwC_bad g)
    have C1 := Lib.hid c1
    clear c1
    go_enter Try.func22, Try.ntmps22
    go_wp2_with fail
    refine (C1.out _ H.out).mono ?_
    rintro e w1 ⟨rfl, b1⟩
    have B1 := HBN.out.then b1
    go_wp2_with fail
    go_ret2
    exact ⟨rfl, B1⟩

end Go.Proofs.Ytjneebhbgogppaa
