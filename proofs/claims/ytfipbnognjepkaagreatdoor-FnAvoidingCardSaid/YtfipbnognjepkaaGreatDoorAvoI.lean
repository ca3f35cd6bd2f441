/- The iterator over the words that avoid a pattern: its contract. -/
import Derived.Test.YtfipbnognjepkaaGreatDoorRangeGen
import Derived.Test.YtfipbnognjepkaaGreatDoorAvoPlain
import Derived.Test.YtfipbnognjepkaaGreatDoorPatF
import Derived.Test.YtfipbnognjepkaaGreatDoorPatS
import Derived.Test.YtfipbnognjepkaaGreatDoorZim
import Derived.Sort.LoopGhostIn
namespace Go.Proofs.YtfipbnognjepkaaGreatDoor
set_option linter.unusedVariables false
set_option linter.unusedSimpArgs false
open Go.RowKit Go.Shelf
attribute [local go_sem] Oper.semAt_some

abbrev encA (s : List UInt8) : Array Value := #[.string (bt s)]

set_option maxRecDepth 100000 in
set_option maxHeartbeats 4000000 in
theorem goOn_in (n : Nat) (hn : 1 ≤ n) (l B : Nat) (p : ByteArray) (hp : IsP p) (m k : Nat) (hm : m ≤ 12) (hk1 : 1 ≤ k) (hk2 : k ≤ 3) (N : Nat) (J Jx : List (List UInt8) → World → Prop) (hA : ∀ s A C, J s A → Below B A C → J s C)
    (hY : ∀ pre x W1, J pre W1 → B ≤ W1.heap.size → pre.length < N → YieldAt Fence.wide (n - 1) Tryz.prog l (encA x) W1 fun e W' =>
      (e = .returned (.bool true) ∧ J (pre ++ [x]) W' ∧ B ≤ W'.heap.size) ∨ (e = .returned (.bool false) ∧ Jx (pre ++ [x]) W')) :
    ∀ (f : Nat) (x : ByteArray) (pre : List (List UInt8)) (W : World), x.size + f = m → IsW x → B ≤ W.heap.size → J pre W → pre.length + (avW (bl p) k f (bl x)).length ≤ N →
    CallsIn Fence.wide n Tryz.prog 123 #[.string x, .string p, .int .i64 (k : Int), .int .i64 (m : Int), .func (.yield l) #[] #[]] W fun e W' =>
      (e = .returned (.bool true) ∧ J (pre ++ avW (bl p) k f (bl x)) W' ∧ B ≤ W'.heap.size) ∨ (e = .returned (.bool false) ∧ ∃ q, (q ≠ [] ∧ ∃ t, q ++ t = pre ++ avW (bl p) k f (bl x)) ∧ Jx q W')
  | 0, x, pre, W, hx, hw, hB, hJ, hN => by
    have hxm : ((x.size : Int) == (m : Int)) = true := by rw [beq_iff_eq]; omega
    have ha : avW (bl p) k 0 (bl x) = [bl x] := by rw [avW]
    rw [ha] at hN ⊢
    obtain ⟨fn, tmps, assign, body, hyy, hRd⟩ := hY pre (bl x) W hJ hB (by simp at hN; omega)
    dsimp only [encA] at hyy
    rw [bt_bl] at hyy
    refine callsIn_of_wp Tryz.func123 rfl trivial ?_ rfl
    simp only [Tryz.ntmps123, List.size_toArray, List.length_cons, List.length_nil, Nat.reduceAdd, Nat.reduceSub, Array.replicate_succ, Array.replicate_zero, List.push_toArray, List.append_toArray, List.nil_append, List.cons_append]
    gi_wp2
    refine hRd.mono ?_
    rintro e W3 (⟨rfl, hJ3, hs3⟩ | ⟨rfl, hJx3⟩)
    · gi_wp2
      go_ret
      exact .inl ⟨rfl, hJ3, hs3⟩
    · gi_wp2
      go_ret
      exact .inr ⟨rfl, _, ⟨by simp, [], by simp⟩, hJx3⟩
  | f + 1, x, pre, W, hx, hw, hB, hJ, hN => by
    have hxm : ((x.size : Int) == (m : Int)) = false := by rw [beq_eq_false_iff_ne]; omega
    obtain ⟨D, hD⟩ : ∃ D, avTo (avW (bl p) k f) (bl p) (bl x) = D := ⟨_, rfl⟩
    have ha : avW (bl p) k (f + 1) (bl x) = D k := by rw [avW, hD]
    rw [ha] at hN ⊢
    have IH := Lib.hid (fun (y : ByteArray) (q : List (List UInt8)) (W' : World) (h1 : y.size + f = m) (h2 : IsW y) h3 h4 h5 => callsIn_wide.1 (goOn_in n hn l B p hp m k hm hk1 hk2 N J Jx hA hY f y q W' h1 h2 h3 h4 h5))
    have HH := Lib.hid (fun c (h : pendB (bl x ++ [letB ((c : Nat) : Int)]) (bl p) = true) => (by rw [← hD]; exact avTo_hit h : D (c + 1) = D c))
    have HM := Lib.hid (fun c (h : pendB (bl x ++ [letB ((c : Nat) : Int)]) (bl p) = false) => (by rw [← hD]; exact avTo_miss h : D (c + 1) = D c ++ avW (bl p) k f (bl x ++ [letB ((c : Nat) : Int)])))
    have HL := Lib.hid (fun c (h : c ≤ k) => (by rw [← hD]; exact avTo_le h : (D c).length ≤ (D k).length))
    have HPr := Lib.hid (fun c (h : c ≤ k) => (by rw [← hD]; exact avTo_pre h : ∃ t, D c ++ t = D k))
    have HD0 : D 0 = [] := by rw [← hD, avTo]
    have HW := Lib.hid hw
    have HP := Lib.hid hp
    have HNN := Lib.hid hN
    have x11 : x.size ≤ 11 := by omega
    have HX := Lib.hid hx
    have HA := Lib.hid hA
    clear hD ha hw hp hN hx hY hA
    refine callsIn_of_wp Tryz.func123 rfl trivial ?_ rfl
    simp only [Tryz.ntmps123, List.size_toArray, List.length_cons, List.length_nil, Nat.reduceAdd, Nat.reduceSub, Array.replicate_succ, Array.replicate_zero, List.push_toArray, List.append_toArray, List.nil_append, List.cons_append]
    gi_wp2
    gi_loopw [21] (fun v wr => ∃ c : Nat, c ≤ k ∧ v = .int .i64 (c : Int) ∧ J (pre ++ D c) wr ∧ B ≤ wr.heap.size) (fun v _ => k - (intOf v).toNat)
    case atStart => exact ⟨0, Nat.zero_le _, rfl, by rw [HD0, List.append_nil]; exact hJ, hB⟩
    case round =>
      clear hJ hB
      obtain ⟨c, hc, rfl, hJ, hB⟩ := hrel
      by_cases hcp : c < k
      · have e1 := lt1_size c
        have LT := Lib.hid (show (⟨#[letB (c : Int)]⟩ : ByteArray) = lt1 c from rfl)
        have hsum : ∀ W, (Op.stringOp .add x (lt1 c)).run Tryz.prog W = .ok (.string (x ++ lt1 c)) W := fun W => run_string_add_sum W _ _ (by rw [lt1_size]; omega)
        have hcv := fun W => rune_text c (by omega) W
        have hwy := isW_av HW.out (by omega) (show c ≤ 4 by omega)
        have CE := Lib.hid (fun W => (callsIn_wide (n := n - 1)).2 (endFits_any p (x ++ lt1 c) HP.out hwy W))
        have CL := Lib.hid (fun W => (callsIn_wide (n := n - 1)).2 (letterOf_z (c : Int) W (by omega) (by omega)))
        have hblt := bl_lt1 x c
        have hszt := size_lt1 x c
        cases he : pendB (bl x ++ [letB (c : Int)]) (bl p) with
        | true =>
          rw [hblt, he] at CE
          have HD1 := Lib.hid (HH.out c he)
          clear he hwy hblt hszt
          generalize lt1 c = t at *
          generalize x ++ t = y at *
          gi_wp2_with (first | (refine ⟨trivial, ?_⟩; gi_at_call 124; refine (CL.out _).mono ?_; rintro e w1 ⟨rfl, rfl⟩) | (refine ⟨trivial, ?_⟩; gi_at_call 158; refine (CE.out _).mono ?_; rintro e w2 ⟨rfl, b2⟩) | (refine ⟨(trivial : Fence.wide.fn 123), ?_⟩))
          go_roundw
          case rel => exact ⟨c + 1, by omega, by go_num, by rw [HD1.out]; exact HA.out _ _ _ hJ (b2.mono hB), Nat.le_trans hB b2.size⟩
          case measure => simp [intOf]; omega
        | false =>
          rw [hblt, he] at CE
          have HD1 := Lib.hid (HM.out c he)
          have CI := Lib.hid (fun (W' : World) h3 h4 h5 => (callsIn_wide (n := n - 1)).2 (IH.out (x ++ lt1 c) (pre ++ D c) W' (by rw [hszt]; have := HX.out; omega) hwy h3 h4 h5))
          rw [hblt] at CI
          clear he hwy hblt hszt
          generalize lt1 c = t at *
          generalize x ++ t = y at *
          have hlen : (pre ++ D c).length + (avW (bl p) k f (bl x ++ [letB (c : Int)])).length ≤ N := by
            have h1 := HL.out (c + 1) (by omega)
            rw [HD1.out, List.length_append] at h1
            rw [List.length_append]
            have := HNN.out
            omega
          have HLN := Lib.hid hlen
          clear hlen
          gi_wp2_with (first | (refine ⟨trivial, ?_⟩; gi_at_call 124; refine (CL.out _).mono ?_; rintro e w1 ⟨rfl, rfl⟩) | (refine ⟨trivial, ?_⟩; gi_at_call 158; refine (CE.out _).mono ?_; rintro e w2 ⟨rfl, b2⟩) | (refine ⟨trivial, ?_⟩; gi_at_call 123; refine (CI.out _ (Nat.le_trans hB b2.size) (HA.out _ _ _ hJ (b2.mono hB)) HLN.out).mono ?_; rintro e w3 (⟨rfl, hJ3, hs3⟩ | ⟨rfl, q, hq, hJx3⟩)))
          · go_roundw
            case rel => exact ⟨c + 1, by omega, by go_num, by rw [HD1.out, ← List.append_assoc]; exact hJ3, hs3⟩
            case measure => simp [intOf]; omega
          · go_ret
            refine .inr ⟨rfl, q, ⟨hq.1, ?_⟩, hJx3⟩
            obtain ⟨t1, ht1⟩ := hq.2
            obtain ⟨t2, ht2⟩ := HPr.out (c + 1) (by omega)
            exact ⟨t1 ++ t2, by rw [← ht2, HD1.out, ← List.append_assoc, ht1]; simp only [List.append_assoc]⟩
      · obtain rfl : c = k := by omega
        gi_wp2
        go_ret
        exact .inl ⟨rfl, hJ, hB⟩

end Go.Proofs.YtfipbnognjepkaaGreatDoor
