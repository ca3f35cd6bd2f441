/- BestBorder: the model. -/
import Derived.Test.YtkemdiefoohdjaaSdS
import Derived.Test.YtkemdiefoohdjaaBbPlain
namespace Go.Proofs.Ytkemdiefoohdjaa
set_option linter.unusedVariables false
set_option linter.unusedSimpArgs false
open Go.RowKit

theorem ext00S (x : ByteArray) : x.extract 0 0 = ⟨#[]⟩ := by
  apply ByteArray.ext
  simp
set_option maxRecDepth 100000 in
set_option maxHeartbeats 4000000 in
theorem spec_BestBorder (x : ByteArray) (w : World) (sx : x.size ≤ maxLen) :
    Calls Try.prog 36 #[.string x] w fun e w' => e = .returned (.tuple #[.string (bestR x).1, .int .i64 (bestR x).2.1, .int .i64 (bestR x).2.2]) ∧ Below w.heap.size w w' := by
  have hmo : Try.prog.follows .mixedOrders = true := by kernel_rfl
  by_cases h : IsW x
  · have H := Lib.hid h
    have hx := h.size
    have hr0 : (bbF x (x.size - 1)).2 = 0 → bestR x = (⟨#[]⟩, 0, 4) := bestR_none h
    have hr1 : ¬ (bbF x (x.size - 1)).2 = 0 → bestR x = (x.extract 0 (bbF x (x.size - 1)).1, ((bbF x (x.size - 1)).2 : Int), 0) := bestR_ok h
    have HR0 := Lib.hid hr0
    have HR1 := Lib.hid hr1
    clear h hr0 hr1
    go_enter Try.func36, Try.ntmps36
    go_wp2_with (go_at_call 49; refine (l01Is_yes x _ H.out).mono ?_; rintro e w1 ⟨rfl, a1⟩)
    go_loopw [5, 6, 7] (fun s5 s6 s7 wr => ∃ k : Nat, (k + 1 ≤ x.size ∨ k = 0) ∧ s7 = .int .i64 ((k : Int) + 1) ∧ s5 = .string (x.extract 0 (bbF x k).1) ∧ s6 = .int .i64 ((bbF x k).2 : Int) ∧ Below w.heap.size w wr)
      (fun _ _ s7 _ => x.size + 2 - (intOf s7).toNat)
    case atStart => exact ⟨0, .inr rfl, rfl, by rw [show bbF x 0 = (0, 0) from rfl, ext00S], rfl, a1⟩
    case round =>
      clear a1
      obtain ⟨k, hk, rfl, rfl, rfl, a1⟩ := hrel
      have hle := (bbF_le x k).2
      by_cases hp : k + 1 < x.size
      · obtain ⟨m, hm⟩ : ∃ m : Nat, k + 1 = m := ⟨_, rfl⟩
        have em : (k : Int) + 1 = (m : Int) := by omega
        have hml : (m : Int) < (x.size : Int) := by omega
        obtain ⟨p, hpp⟩ : ∃ p : Nat, x.size - m = p := ⟨_, rfl⟩
        have e1 : (x.size : Int) - (m : Int) = (p : Int) := by omega
        have hs1 := slice_toS x m (by omega)
        have hs2 := slice_fromS x p (by omega)
        have hm60 : (x.extract 0 m).size ≤ 60 := by rw [ByteArray.size_extract]; omega
        have hcl := cvN_le x (x.extract 0 m)
        by_cases he : x.extract 0 m = x.extract p x.size
        · have hb : bdT x (k + 1) = true := by unfold bdT; rw [hm, hpp]; exact decide_eq_true he
          have hq := teq_yes he
          clear he
          have hpl := fun W => l09Places_any x (x.extract 0 m) W hx hm60
          have hcn : cnB (cvB x (x.extract 0 m)) x.size = cvN x (x.extract 0 m) := rfl
          have hct := fun G W (t : TabO W W.heap.size G x.size (cvB x (x.extract 0 m))) => t
          by_cases hlt : (bbF x k).2 < cvN x (x.extract 0 m)
          · have e9 : bbF x (k + 1) = (m, cvN x (x.extract 0 m)) := by rw [bbF_hit hb (by rw [hm]; exact hlt), hm]
            have HE := Lib.hid e9
            have hgt : (cvN x (x.extract 0 m) : Int) > ((bbF x k).2 : Int) := by omega
            have hgt2 : decide ((bbF x k).2 < cvN x (x.extract 0 m)) = true := decide_eq_true hlt
            rw [← hcn] at hgt hgt2
            clear e9 hb hct
            go_wp2_with fail
            go_region
            go_wp2_with (first | (go_at_call 71; refine (hpl _).mono ?_; rintro e w5 ⟨G, rfl, t5, b5⟩) | (go_at_call 70; refine (l09Count_any _ _ _ _ _ t5 hx).mono ?_; rintro e w6 ⟨rfl, rfl⟩))
            go_roundw
            case rel => exact ⟨k + 1, .inl (by omega), by go_num, by rw [HE.out], by rw [HE.out], a1.drew.then b5⟩
            case measure => simp [intOf]; omega
          · have HE := Lib.hid (bbF_low (x := x) (k := k) (by rw [hm]; exact hlt))
            have hgt : ¬ (cvN x (x.extract 0 m) : Int) > ((bbF x k).2 : Int) := by omega
            have hgt2 : decide ((bbF x k).2 < cvN x (x.extract 0 m)) = false := decide_eq_false hlt
            rw [← hcn] at hgt hgt2
            clear hb hct
            go_wp2_with fail
            go_region
            go_wp2_with (first | (go_at_call 71; refine (hpl _).mono ?_; rintro e w5 ⟨G, rfl, t5, b5⟩) | (go_at_call 70; refine (l09Count_any _ _ _ _ _ t5 hx).mono ?_; rintro e w6 ⟨rfl, rfl⟩))
            go_roundw
            case rel => exact ⟨k + 1, .inl (by omega), by go_num, by rw [HE.out], by rw [HE.out], a1.drew.then b5⟩
            case measure => simp [intOf]; omega
        · have hb : bdT x (k + 1) = false := by unfold bdT; rw [hm, hpp]; exact decide_eq_false he
          have HE := Lib.hid (bbF_miss hb)
          have hq := teq_no he
          clear he hb
          go_wp2_with fail
          go_region
          go_wp2_with fail
          go_roundw
          case rel => exact ⟨k + 1, .inl (by omega), by go_num, by rw [HE.out], by rw [HE.out], a1.drew⟩
          case measure => simp [intOf]; omega
      · have hkn : ¬ ((k : Int) + 1) < (x.size : Int) := by omega
        have ek : x.size - 1 = k := by omega
        have hr0 := HR0.out
        have hr1 := HR1.out
        rw [ek] at hr0 hr1
        by_cases h0 : (bbF x k).2 = 0
        · have E0 := Lib.hid (hr0 h0)
          have h0i : (((bbF x k).2 : Nat) : Int) = 0 := by omega
          clear hr0 hr1
          go_wp2_with fail
          refine bodyPost_ret (v := .tuple #[.string ⟨#[]⟩, .int .i64 0, .int .i64 4]) ?_ rfl ⟨by rw [E0.out], a1⟩
          simp [results, Try.results36, go_sem]
        · have E0 := Lib.hid (hr1 h0)
          have h0i : ¬ (((bbF x k).2 : Nat) : Int) = 0 := by omega
          clear hr0 hr1
          generalize hs1 : x.extract 0 (bbF x k).1 = s1 at *
          generalize hn1 : (bbF x k).2 = n1 at *
          go_wp2_with fail
          refine bodyPost_ret (v := .tuple #[.string s1, .int .i64 (n1 : Int), .int .i64 0]) ?_ rfl ⟨by rw [E0.out], a1⟩
          simp [results, Try.results36, go_sem]
  · rw [bestR_bad h]
    have H := Lib.hid h
    clear h
    go_enter Try.func36, Try.ntmps36
    go_wp2_with (go_at_call 49; refine (l01Is_no x _ sx H.out).mono ?_; rintro e w1 ⟨rfl, a1⟩)
    refine bodyPost_ret (v := .tuple #[.string ⟨#[]⟩, .int .i64 0, .int .i64 1]) ?_ rfl ⟨rfl, a1⟩
    simp [results, Try.results36, go_sem]

end Go.Proofs.Ytkemdiefoohdjaa
