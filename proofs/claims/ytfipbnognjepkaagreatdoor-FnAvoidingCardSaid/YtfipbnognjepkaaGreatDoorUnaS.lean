/- Unavoidable patterns: the model. -/
import Derived.Test.YtfipbnognjepkaaGreatDoorPatT
import Derived.Test.YtfipbnognjepkaaGreatDoorZim
import Derived.Test.YtfipbnognjepkaaGreatDoorInts
import Derived.Test.YtfipbnognjepkaaGreatDoorOwn
namespace Go.Proofs.YtfipbnognjepkaaGreatDoor
set_option linter.unusedVariables false
set_option linter.unusedSimpArgs false
open Go.RowKit

theorem cntV_snoc (P : List UInt8) (c : UInt8) (v : Nat) : cntV (P ++ [c]) v = cntV P v + (if vn c = v then 1 else 0) := by
  unfold cntV
  rw [List.filter_append, List.length_append]
  by_cases h : vn c = v <;> simp [h]
/-- Was the variable met? -/
def metV (P : List UInt8) (v : Nat) : Bool := decide (0 < cntV P v)
theorem metV_nil (v : Nat) : metV [] v = false := rfl
theorem metV_snoc (P : List UInt8) (c : UInt8) (v : Nat) : metV (P ++ [c]) v = (metV P v || decide (vn c = v)) := by
  unfold metV
  rw [cntV_snoc]
  by_cases h : vn c = v
  · simp [h]
  · simp [h]
theorem vsOf_snoc_old {P : List UInt8} {c : UInt8} (h : metV P (vn c) = true) : (vsOf (P ++ [c])).length = (vsOf P).length := by
  unfold vsOf
  congr 1
  apply List.filter_congr
  intro v _
  have := metV_snoc P c v
  unfold metV at this h
  rw [this]
  by_cases e : vn c = v
  · rw [← e, h]; rfl
  · simp [e]
theorem vsOf_snoc_new {P : List UInt8} {c : UInt8} (h : metV P (vn c) = false) (hc : vn c < 3) : (vsOf (P ++ [c])).length = (vsOf P).length + 1 := by
  have h0 := metV_snoc P c 0
  have h1 := metV_snoc P c 1
  have h2 := metV_snoc P c 2
  unfold metV at h0 h1 h2 h
  unfold vsOf
  simp only [List.filter_cons, List.filter_nil, h0, h1, h2]
  have hk : vn c = 0 ∨ vn c = 1 ∨ vn c = 2 := by omega
  rcases hk with e | e | e <;> rw [e] at h ⊢ <;> rw [h] <;> simp <;> (repeat' split) <;> simp
def ThreeB (w : World) (B g cap : Nat) (f : Nat → Bool) : Prop := w.ownsRow B 4 1 (.slice (some ⟨g, 0, none⟩) 3 cap) 3 [.bool (f 0), .bool (f 1), .bool (f 2)]

theorem ThreeB.at {w : World} {B g cap : Nat} {f : Nat → Bool} (h : ThreeB w B g cap f) {j : Nat} (hj : j < 3) : w.cell? ⟨g, j, none⟩ = some (.bool (f j)) := by
  rw [h.cellAt j (by omega)]
  have hj' : j = 0 ∨ j = 1 ∨ j = 2 := by omega
  rcases hj' with rfl | rfl | rfl <;> rfl
theorem ThreeB.set {w : World} {B g cap : Nat} {f f2 : Nat → Bool} (h : ThreeB w B g cap f) {k : Nat} (hk : k < 3) (h2 : ∀ j, f2 j = (f j || decide (k = j))) : ThreeB (w.setCell ⟨g, k, none⟩ (.bool true)) B g cap f2 := by
  have h3 := (h.stored k (.bool true)).1
  have e : [Value.bool (f 0), .bool (f 1), .bool (f 2)].set k (.bool true) = [Value.bool (f2 0), .bool (f2 1), .bool (f2 2)] := by
    rw [h2, h2, h2]
    have hk' : k = 0 ∨ k = 1 ∨ k = 2 := by omega
    rcases hk' with rfl | rfl | rfl <;> simp
  rw [e] at h3
  exact h3
theorem ThreeB.same {w : World} {B g cap : Nat} {f f2 : Nat → Bool} (h : ThreeB w B g cap f) (h2 : ∀ j, f2 j = f j) : ThreeB w B g cap f2 := by
  have e : f2 = f := funext h2
  rw [e]; exact h
theorem vsOf_len3 (P : List UInt8) : (vsOf P).length ≤ 3 := by
  unfold vsOf
  exact Nat.le_trans (List.length_filter_le _ _) (by decide)
theorem vsOf_posU {P : List UInt8} (hP : IsPL P) (h0 : P ≠ []) : 1 ≤ (vsOf P).length := by
  cases P with
  | nil => exact absurd rfl h0
  | cons c P =>
    have hc := hP c (List.mem_cons_self ..)
    have hm : vn c ∈ vsOf (c :: P) := vsOf_mem.2 ⟨by unfold vn; omega, cntV_pos.2 ⟨c, List.mem_cons_self .., rfl⟩⟩
    exact List.length_pos_of_mem hm
theorem zimL_60 {n : Nat} (h : n ≤ 5) : (zimL n).length ≤ 60 := by have := zim_size h; rw [bt_size] at this; omega

noncomputable def unavR (p : ByteArray) : Bool × Int := if IsP p then (hasB (zimL (vsOf (bl p)).length) (bl p), 0) else (false, 1)
theorem unavR_bad {p : ByteArray} (h : ¬ IsP p) : unavR p = (false, 1) := if_neg h
theorem unavR_ok {p : ByteArray} (h : IsP p) : unavR p = (hasB (zimL (vsOf (bl p)).length) (bl p), 0) := if_pos h

set_option maxRecDepth 100000 in
set_option maxHeartbeats 2000000 in
theorem spec_IsUnavoidable (p : ByteArray) (w : World) (sp : p.size ≤ maxLen) :
    Calls Tryz.prog 20 #[.string p] w fun e w' => e = .returned (.tuple #[.bool (unavR p).1, .int .i64 (unavR p).2]) ∧ Below w.heap.size w w' := by
  by_cases hp : IsP p
  · rw [unavR_ok hp]
    have HI := Lib.hid (fun W => l10Is_yes p W hp)
    obtain ⟨N, hN⟩ : ∃ N, (vsOf (bl p)).length = N := ⟨_, rfl⟩
    rw [hN]
    have hN3 : N ≤ 3 := by rw [← hN]; exact vsOf_len3 _
    have hN1 : 1 ≤ N := by rw [← hN]; exact vsOf_posU hp.list (bl_ne hp.1)
    obtain ⟨m, rfl⟩ : ∃ m, N = m + 1 := ⟨N - 1, by omega⟩
    have CZ := Lib.hid (fun W => l10Zimin_any m W (by omega))
    have CH := Lib.hid (fun W => by have q := l10Has_any (zimL (m + 1)) (bl p) hp.list (bl_ne hp.1) (by rw [bl_len]; exact hp.2.1) (zimL_60 (by omega)) W; rw [bt_bl] at q; exact q)
    obtain ⟨r, hr⟩ : ∃ r, hasB (zimL (m + 1)) (bl p) = r := ⟨_, rfl⟩
    rw [hr] at CH ⊢
    generalize bt (zimL (m + 1)) = z at *
    have HP := Lib.hid hp
    have HN := Lib.hid hN
    have hp8 := hp.2.1
    clear hp hN hr sp
    go_enter Tryz.func20, Tryz.ntmps20
    go_wp2_with (go_at_call 73; refine (HI.out _).mono ?_; rintro e w1 ⟨rfl, b1⟩)
    have hs1 := b1.size
    have ho0 : ThreeB (w1.alloc (.cells #[.bool false, .bool false, .bool false] 4)) w1.heap.size w1.heap.size 3 (metV []) :=
      World.ownsRow_lit (e := 4) w1 #[.bool false, .bool false, .bool false] 3 (Nat.le_refl _) (by unfold maxLen; omega) rfl
    have HO0 := Lib.hid ho0
    clear ho0
    go_loopw [5, 6] (fun s5 s6 wr => ∃ i : Nat, i ≤ p.size ∧ s6 = .int .i64 (i : Int) ∧ s5 = .int .i64 (((vsOf ((bl p).take i)).length : Nat) : Int) ∧ ThreeB wr w1.heap.size w1.heap.size 3 (metV ((bl p).take i)) ∧ Below w.heap.size w wr) (fun _ s6 _ => p.size - (intOf s6).toNat)
    case atStart => exact ⟨0, Nat.zero_le _, rfl, rfl, HO0.out, b1.alloc hs1 _⟩
    case round =>
      obtain ⟨i, hi1, rfl, rfl, hTh, hB⟩ := hrel
      by_cases hp' : i < p.size
      · have hpl : i < (bl p).length := by rw [bl_len]; exact hp'
        obtain ⟨hc1, hc2⟩ := HP.out.2.2 i hp'
        have htk : (bl p).take (i + 1) = (bl p).take i ++ [(bl p)[i]'hpl] := by rw [List.take_succ_eq_append_getElem hpl]
        have hge : (bl p)[i]'hpl = p[i]'hp' := rfl
        obtain ⟨k, hk⟩ : ∃ k, vn ((bl p)[i]'hpl) = k := ⟨_, rfl⟩
        have hk3 : k < 3 := by rw [← hk, hge]; unfold vn; omega
        have hck : ((p[i]'hp').toNat : Int) = (k : Int) + 65 := by rw [← hk, hge]; unfold vn; omega
        have hidx : ∀ W, (Instr.index 9 (.string p) (.int .i64 (i : Int))).run Tryz.prog W = .ok (.int .u8 ((k : Int) + 65)) W := fun W => by rw [← hck]; exact index_at p _ i hp' rfl W
        have kv := hTh.at hk3
        have kf : wr.frozen? ⟨w1.heap.size, k, none⟩ = false := hTh.frozenAt k
        have hl3 := vsOf_len3 ((bl p).take i)
        have hms := fun v => metV_snoc ((bl p).take i) ((bl p)[i]'hpl) v
        have hold := fun h => vsOf_snoc_old (P := (bl p).take i) (c := (bl p)[i]'hpl) h
        have hnew := fun h h2 => vsOf_snoc_new (P := (bl p).take i) (c := (bl p)[i]'hpl) h h2
        rw [hk] at hold hnew hms
        rw [← htk] at hold hnew hms
        have HOLD := Lib.hid hold
        have HNEW := Lib.hid hnew
        have HMS := Lib.hid hms
        have HTH := Lib.hid hTh
        clear hold hnew hms htk hk hge hck hTh HO0
        cases hm : metV ((bl p).take i) k with
        | true =>
          rw [hm] at kv
          have HL := Lib.hid (HOLD.out hm)
          have HT2 := Lib.hid (HTH.out.same (f2 := metV ((bl p).take (i + 1))) (fun j => by
            rw [HMS.out j]
            by_cases e : k = j
            · rw [← e, hm]; rfl
            · simp [e]))
          clear hm
          generalize (vsOf ((bl p).take i)).length = q at *
          go_wp2_with fail
          go_roundw
          case rel => exact ⟨i + 1, by omega, by go_num, by rw [HL.out], HT2.out, hB⟩
          case measure => simp [intOf]; omega
        | false =>
          rw [hm] at kv
          have HL := Lib.hid (HNEW.out hm hk3)
          have HT2 := Lib.hid (HTH.out.set (f2 := metV ((bl p).take (i + 1))) hk3 (fun j => HMS.out j))
          have HB2 := Lib.hid (hB.setCell (p := ⟨w1.heap.size, k, none⟩) hs1 (.bool true))
          clear hm
          generalize (vsOf ((bl p).take i)).length = q at *
          go_wp2_with fail
          go_roundw
          case rel => exact ⟨i + 1, by omega, by go_num, by rw [HL.out]; go_num, HT2.out, HB2.out⟩
          case measure => simp [intOf]; omega
      · obtain rfl : i = p.size := by omega
        have hfull : (vsOf ((bl p).take p.size)).length = m + 1 := by rw [← bl_len, List.take_length]; exact HN.out
        rw [hfull]
        have hcast : ((m + 1 : Nat) : Int) = (m : Int) + 1 := by omega
        rw [hcast]
        clear hfull hTh HO0 hcast
        go_wp2_with (first | (go_at_call 67; refine (CZ.out _).mono ?_; rintro e w2 ⟨rfl, b2⟩) | (go_at_call 74; refine (CH.out _).mono ?_; rintro e w3 ⟨rfl, b3⟩))
        go_ret2
        exact ⟨rfl, (hB.then b2).then b3⟩
  · rw [unavR_bad hp]
    have HI := Lib.hid (fun W => l10Is_no p W sp hp)
    clear hp sp
    go_enter Tryz.func20, Tryz.ntmps20
    go_wp2_with (go_at_call 73; refine (HI.out _).mono ?_; rintro e w1 ⟨rfl, b1⟩)
    go_ret2
    exact ⟨rfl, b1⟩

end Go.Proofs.YtfipbnognjepkaaGreatDoor
