/- GrowByCover: the model. -/
import Derived.Test.YtkemdiefoohdjabCovS
import Derived.Test.YtkemdiefoohdjabBbPlain
import Derived.Test.YtkemdiefoohdjabTurn
import Derived.Test.YtkemdiefoohdjabInts
import Derived.RegionTactic
namespace Go.Proofs.Ytkemdiefoohdjab
set_option linter.unusedVariables false
set_option linter.unusedSimpArgs false
open Go.RowKit

theorem isW_noneG : IsW ⟨#[]⟩ := ⟨by decide, fun i hi => absurd hi (Nat.not_lt_zero i)⟩
theorem slice_toG (x : ByteArray) (n : Nat) (h : n ≤ x.size) (W : World) :
    (Instr.slice 9 (.string x) none (some (.int .i64 (n : Int))) none).run Try.prog W = .ok (.string (x.extract 0 n)) W := by
  have := run_slice_string_h (P := Try.prog) W 9 x Try.underlying9 .i64 (n : Int) (by omega) (by omega)
  simpa using this
theorem slice_fromG (x : ByteArray) (n : Nat) (h : n ≤ x.size) (W : World) :
    (Instr.slice 9 (.string x) (some (.int .i64 (n : Int))) none none).run Try.prog W = .ok (.string (x.extract n x.size)) W := by
  have := run_slice_string_l (P := Try.prog) W 9 x Try.underlying9 .i64 (n : Int) (by omega) (by omega)
  simpa using this
theorem ownI_lkGS {w : World} {B : Nat} {v : Value} {L : List Int} (h : OwnI w B v L) : ∃ ad cap, v = .slice ad L.length cap ∧ ∀ j (hj : j < L.length), ∃ g, ad = some ⟨g, 0, none⟩ ∧ g < w.heap.size ∧ j < cap ∧ w.cell? ⟨g, j, none⟩ = some (.int .i64 (L[j]'hj)) := by
  rcases own_forms h with ⟨rfl, h0, _⟩ | ⟨g, cap, rfl, _, hg, hc, _, hk, _⟩
  · exact ⟨_, _, by rw [h0], fun j hj => by omega⟩
  · refine ⟨_, _, rfl, fun j hj => ⟨g, rfl, hg, by omega, ?_⟩⟩
    rw [hk j hj]
    simp [hj]

set_option maxRecDepth 100000 in
set_option maxHeartbeats 4000000 in
theorem spec_GrowByCover (u : ByteArray) (B : Nat) (v : Value) (L : List Int) (w : World) (su : u.size ≤ maxLen) (h : OwnI w B v L) (hl : L.length ≤ 1048576) :
    Calls Try.prog 7 #[.string u, v] w fun e w' => e = .returned (.tuple #[.string (growCR u L).1, .int .i64 (growCR u L).2]) ∧ Below w.heap.size w w' := by
  obtain ⟨ad, cap, rfl, look⟩ := ownI_lkGS h
  have LK := Lib.hid look
  clear look h
  by_cases hw : IsW u
  · by_cases k0 : u.size = 0
    · have e1 := codeR1_empty (x := ⟨#[]⟩) ⟨isW_noneG, hw⟩ k0
      have E := Lib.hid (growCR_out (L := L) hw (.inl k0))
      clear hw LK
      go_enter Try.func7, Try.ntmps7
      go_wp2_with (go_at_call 55; refine (l09Code1_any ⟨#[]⟩ u _ (by decide) su _ (by simp) (by simp [go_sem])).mono ?_; rintro e w1 ⟨rfl, b1⟩)
      refine bodyPost_ret (v := .tuple #[.string ⟨#[]⟩, .int .i64 2]) ?_ rfl ⟨by rw [E.out], (Below.new _ _).then b1⟩
      simp [results, Try.results7, go_sem]
    · have e1 := codeR1_ok (x := ⟨#[]⟩) ⟨isW_noneG, hw⟩ k0
      have hx := hw.size
      have HW := Lib.hid hw
      clear hw
      go_enter Try.func7, Try.ntmps7
      go_wp2_with (go_at_call 55; refine (l09Code1_any ⟨#[]⟩ u _ (by decide) su _ (by simp) (by simp [go_sem])).mono ?_; rintro e w1 ⟨rfl, b1⟩)
      have B1 : Below w.heap.size w w1 := (Below.new _ _).then b1
      clear b1
      have LB : ∀ W, Below w.heap.size w W → ∀ j (hj : j < L.length), ∃ g, ad = some ⟨g, 0, none⟩ ∧ j < cap ∧ W.cell? ⟨g, j, none⟩ = some (.int .i64 (L[j]'hj)) := fun W b j hj => by
        obtain ⟨g, h1, h2, h3, h4⟩ := LK.out j hj
        exact ⟨g, h1, h3, by rw [b.cell (show g < _ from h2)]; exact h4⟩
      have LBH := Lib.hid LB
      clear LB LK
      go_wp2_with fail
      go_loopw [8] (fun s8 wr => Below w.heap.size w wr ∧ ∃ k : Nat, k ≤ L.length ∧ s8 = .int .i64 (k : Int) ∧ Hid (∀ i (hi : i < L.length), i < k → 0 ≤ L[i]'hi ∧ L[i]'hi < u.size))
        (fun s8 _ => L.length - (intOf s8).toNat)
      case atStart => exact ⟨B1, 0, Nat.zero_le _, rfl, Lib.hid (fun i _ hi => by omega)⟩
      case round =>
        clear B1
        obtain ⟨hB, k, hk, rfl, hi⟩ := hrel
        by_cases hp : k < L.length
        · obtain ⟨g, rfl, hg3, kc⟩ := LBH.out wr hB k hp
          have hkn : (k : Int) < (L.length : Int) := by omega
          have hk0 : (0 : Int) ≤ (k : Int) := by omega
          by_cases hz : 0 ≤ L[k]'hp ∧ L[k]'hp < u.size
          · have hi2 : Hid (∀ i (hi : i < L.length), i < k + 1 → 0 ≤ L[i]'hi ∧ L[i]'hi < u.size) := Lib.hid fun i hi1 hi3 => by
              by_cases e : i = k
              · subst e; exact hz
              · exact hi.out i hi1 (by omega)
            clear hi
            generalize L[k]'hp = z at *
            go_wp2_with (go_at_call 56; refine (l01In_yes z 0 ((u.size : Int) - 1) _ hz.1 (by omega)).mono ?_; rintro e w5 ⟨rfl, b5⟩)
            go_roundw
            case rel => exact ⟨hB.then b5, k + 1, by omega, by go_num, hi2⟩
            case measure => simp [intOf]; omega
          · have E := Lib.hid (growCR_out (L := L) HW.out (.inr (fun e => hz (e _ (List.getElem_mem hp)))))
            clear hi
            generalize L[k]'hp = z at *
            go_wp2_with (go_at_call 56; refine (l01In_no z 0 ((u.size : Int) - 1) _ (by omega)).mono ?_; rintro e w5 ⟨rfl, b5⟩)
            refine bodyPost_ret (v := .tuple #[.string ⟨#[]⟩, .int .i64 2]) ?_ rfl ⟨by rw [E.out], hB.then b5⟩
            simp [results, Try.results7, go_sem]
        · obtain rfl : k = L.length := by omega
          have hkn : ¬ (L.length : Int) < (L.length : Int) := by omega
          have HR : Hid (∀ z ∈ L, 0 ≤ z ∧ z < u.size) := Lib.hid fun z hz => by
            obtain ⟨i, hi1, rfl⟩ := List.getElem_of_mem hz
            exact hi.out i hi1 hi1
          clear hi
          go_wp2_with fail
          go_loopw [9] (fun s9 wr => Below w.heap.size w wr ∧ ∃ k : Nat, k ≤ L.length ∧ s9 = .int .i64 (k : Int) ∧ Hid (∀ i (hi : i < L.length), i < k → bdT u (L[i]'hi).toNat = true))
            (fun s9 _ => L.length - (intOf s9).toNat)
          case atStart => exact ⟨hB, 0, Nat.zero_le _, rfl, Lib.hid (fun i _ hi => by omega)⟩
          case round =>
            clear hB
            obtain ⟨hB, k, hk, rfl, hi⟩ := hrel
            by_cases hp : k < L.length
            · obtain ⟨g, rfl, hg3, kc⟩ := LBH.out wr hB k hp
              have hkn : (k : Int) < (L.length : Int) := by omega
              have hk0 : (0 : Int) ≤ (k : Int) := by omega
              obtain ⟨z0, z1⟩ := HR.out _ (List.getElem_mem hp)
              obtain ⟨z, hz⟩ : ∃ z : Nat, L[k]'hp = (z : Int) := ⟨(L[k]'hp).toNat, by omega⟩
              have hzz : (L[k]'hp).toNat = z := by omega
              rw [hz] at kc
              obtain ⟨p, hpp⟩ : ∃ p : Nat, u.size - z = p := ⟨_, rfl⟩
              have e2 : (u.size : Int) - (z : Int) = (p : Int) := by omega
              have hs1 := slice_toG u z (by omega)
              have hs2 := slice_fromG u p (by omega)
              by_cases he : u.extract 0 z = u.extract p u.size
              · have hb : bdT u z = true := by unfold bdT; rw [hpp]; exact decide_eq_true he
                have hi2 : Hid (∀ i (hi : i < L.length), i < k + 1 → bdT u (L[i]'hi).toNat = true) := Lib.hid fun i hi1 hi3 => by
                  by_cases e : i = k
                  · subst e; rw [hzz]; exact hb
                  · exact hi.out i hi1 (by omega)
                have hq := teq_yes he
                clear hi he hb hz hzz
                go_wp2_with fail
                go_region
                go_wp2_with fail
                go_roundw
                case rel => exact ⟨hB.drew, k + 1, by omega, by go_num, hi2⟩
                case measure => simp [intOf]; omega
              · have hb : bdT u z = false := by unfold bdT; rw [hpp]; exact decide_eq_false he
                have E := Lib.hid (growCR_none (L := L) HW.out k0 HR.out (fun e => by have := e _ (List.getElem_mem hp); rw [hzz, hb] at this; cases this))
                have hq := teq_no he
                clear hi he hb hz hzz
                go_wp2_with fail
                go_region
                go_wp2_with fail
                refine bodyPost_ret (v := .tuple #[.string ⟨#[]⟩, .int .i64 4]) ?_ rfl ⟨by rw [E.out], hB.drew⟩
                simp [results, Try.results7, go_sem]
            · obtain rfl : k = L.length := by omega
              have hkn : ¬ (L.length : Int) < (L.length : Int) := by omega
              have HF : Hid (∀ z ∈ L, bdT u z.toNat = true) := Lib.hid fun z hz => by
                obtain ⟨i, hi1, rfl⟩ := List.getElem_of_mem hz
                exact hi.out i hi1 hi1
              clear hi
              go_wp2_with fail
              go_loopw [10, 11] (fun s10 s11 wr => Below w.heap.size w wr ∧ ∃ (k : Nat) (s : ByteArray), k ≤ L.length ∧ s11 = .int .i64 (k : Int) ∧ s10 = .string s ∧ Hid (s = growT u (L.take k)) ∧ s.size ≤ 60)
                (fun _ s11 _ => L.length - (intOf s11).toNat)
              case atStart => exact ⟨hB, 0, u, Nat.zero_le _, rfl, rfl, Lib.hid rfl, hx⟩
              case round =>
                clear hB
                obtain ⟨hB, k, s, hk, rfl, rfl, hs, hs60⟩ := hrel
                by_cases hp : k < L.length
                · obtain ⟨g, rfl, hg3, kc⟩ := LBH.out wr hB k hp
                  have hkn : (k : Int) < (L.length : Int) := by omega
                  have hk0 : (0 : Int) ≤ (k : Int) := by omega
                  obtain ⟨z0, z1⟩ := HR.out _ (List.getElem_mem hp)
                  obtain ⟨z, hz⟩ : ∃ z : Nat, L[k]'hp = (z : Int) := ⟨(L[k]'hp).toNat, by omega⟩
                  have hzz : (L[k]'hp).toNat = z := by omega
                  have hst : (s.size : Int) = growN u.size (L.take k) := by rw [hs.out]; exact growT_take L HR.out k hk
                  have hsn : growN u.size (L.take (k + 1)) = growN u.size (L.take k) + ((u.size : Int) - z) := by rw [List.take_succ_eq_append_getElem hp, growN_snoc, hz]
                  have hsx := slice_fromG u z (by omega)
                  have zb : (z : Int) < (u.size : Int) := by omega
                  rw [hz] at kc
                  by_cases hc : (s.size : Int) + (u.size : Int) - (z : Int) > 60
                  · have E := Lib.hid (growCR_long (L := L) HW.out k0 HR.out HF.out (by
                      have h2 : growN u.size (L.take (k + 1)) ≤ growN u.size L := by
                        have := growN_mono (n := u.size) (L.take (k + 1)) (L.drop (k + 1)) (fun z hz => HR.out z (List.mem_of_mem_drop hz))
                        rwa [List.take_append_drop] at this
                      omega))
                    clear hs hst hsn hz hzz
                    go_wp2_with fail
                    refine bodyPost_ret (v := .tuple #[.string ⟨#[]⟩, .int .i64 3]) ?_ rfl ⟨by rw [E.out], hB⟩
                    simp [results, Try.results7, go_sem]
                  · have hn : Hid (s ++ u.extract z u.size = growT u (L.take (k + 1))) := Lib.hid (by rw [List.take_succ_eq_append_getElem hp, growT_snoc, hs.out, hzz])
                    have hsz : (s ++ u.extract z u.size).size ≤ 60 := by rw [ByteArray.size_append, ByteArray.size_extract]; omega
                    have hsz2 : s.size + (u.extract z u.size).size ≤ 60 := by rw [ByteArray.size_extract]; omega
                    clear hs hst hsn hz hzz
                    go_wp2_with fail
                    exact ⟨⟨hB, k + 1, _, by omega, by go_num, rfl, hn, hsz⟩, by simp [intOf]; omega⟩
                · obtain rfl : k = L.length := by omega
                  have hkn : ¬ (L.length : Int) < (L.length : Int) := by omega
                  have e0 : L.take L.length = L := List.take_length
                  rw [e0] at hs
                  have E := Lib.hid (growCR_ok (L := L) HW.out k0 HR.out HF.out (by
                    have h2 := growT_size L HR.out
                    rw [← hs.out] at h2
                    omega))
                  rw [← hs.out] at E
                  clear hs
                  go_wp2_with fail
                  refine bodyPost_ret (v := .tuple #[.string s, .int .i64 0]) ?_ rfl ⟨by rw [E.out], hB⟩
                  simp [results, Try.results7, go_sem]
  · have e1 := codeR1_bad (x := ⟨#[]⟩) (u := u) (fun e => hw e.2)
    rw [growCR_bad hw]
    clear hw LK
    go_enter Try.func7, Try.ntmps7
    go_wp2_with (go_at_call 55; refine (l09Code1_any ⟨#[]⟩ u _ (by decide) su _ (by simp) (by simp [go_sem])).mono ?_; rintro e w1 ⟨rfl, b1⟩)
    refine bodyPost_ret (v := .tuple #[.string ⟨#[]⟩, .int .i64 1]) ?_ rfl ⟨rfl, (Below.new _ _).then b1⟩
    simp [results, Try.results7, go_sem]

end Go.Proofs.Ytkemdiefoohdjab
