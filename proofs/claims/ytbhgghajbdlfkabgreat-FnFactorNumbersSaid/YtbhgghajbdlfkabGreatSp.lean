/- The tests of special factors: the program. -/
import Derived.Test.YtbhgghajbdlfkabGreatSpPlain
import Derived.Test.YtbhgghajbdlfkabGreatWordOf
import Derived.Test.YtbhgghajbdlfkabGreatStrs
import Derived.Test.YtbhgghajbdlfkabGreatShelf
import Derived.Deep.LoopGhost
import Derived.Deep.QuietTactic
import Derived.BigQuiet
namespace Go.Proofs.YtbhgghajbdlfkabGreat
set_option linter.unusedVariables false
set_option linter.unusedSimpArgs false
open Go.RowKit

def MaxOK5 (w : World) : Prop := ∃ m, w.cell? ⟨0, 0, none⟩ = some (.int .i64 m)
theorem MaxOK5.drewN {w : World} (h : MaxOK5 w) (n : Nat) : MaxOK5 (w.drewN n) := h
theorem MaxOK5.lt {w : World} (h : MaxOK5 w) : 0 < w.heap.size := by
  obtain ⟨m, h⟩ := h
  exact World.block_lt_of_cell? w _ h
theorem MaxOK5.below {w w' : World} (h : MaxOK5 w) (b : Below w.heap.size w w') : MaxOK5 w' := by
  have hl := h.lt
  obtain ⟨m, h⟩ := h
  exact ⟨m, ((bcell b).1 _ 0 hl).trans h⟩
theorem maxOK5_of {w : World} (h : w.ShapedOpen Tryz.prog) : MaxOK5 w := Tryz.laysM143.s1_3 w h
theorem drewN_drewN (w : World) (a b : Nat) : (w.drewN a).drewN b = w.drewN (a + b) := by simp [World.drewN, Nat.add_assoc]
theorem contains_any (x y : ByteArray) (w : World) (hx : x.size ≤ 60) (hM : MaxOK5 w) :
    Calls Tryz.prog 162 #[.string x, .string y] w fun e w' => e = .returned (.bool (ctB x y)) ∧ w' = w := by
  obtain ⟨m, hm⟩ := hM
  exact Tryz.strings_Contains x y m w (by omega) hm

set_option maxRecDepth 100000 in
theorem joinR_any (f t : ByteArray) (w : World) (hf : f.size ≤ 60) (ht : t.size ≤ 1) :
    Calls Tryz.prog 130 #[.string f, .string t] w fun e w' => e = .returned (.string (joinB true f t)) ∧ w' = w := by
  have hsum : ∀ W, (Op.stringOp .add f t).run Tryz.prog W = .ok (.string (joinB true f t)) W := fun W => run_string_add_sum W f t (by omega)
  go_enter Tryz.func130, Tryz.ntmps130
  go_wp2
  go_ret
  exact ⟨rfl, rfl⟩

set_option maxRecDepth 100000 in
set_option maxHeartbeats 2000000 in
theorem severalR_any (x f : ByteArray) (b1 b2 : Nat) (w : World) (hx : x.size ≤ 60) (hf : f.size ≤ 60) (k1 : w.cell? ⟨b1, 0, none⟩ = some (.string x)) (k2 : w.cell? ⟨b2, 0, none⟩ = some (.func (.func 130) #[] #[])) (hM : MaxOK5 w) :
    Calls Tryz.prog 161 #[.string f, .pointer (some ⟨b1, 0, none⟩), .pointer (some ⟨b2, 0, none⟩)] w fun e w' => e = .returned (.bool (spB x true f)) ∧ ∃ q, w' = w.drewN q := by
  have hmo : Tryz.prog.follows .mixedOrders = true := by kernel_rfl
  have HM := Lib.hid hM
  have HSP : Hid (spB x true f = decide (2 ≤ cntB x true f 5)) := Lib.hid rfl
  have HCL := Lib.hid fun n => cntB_le x true f n
  generalize spB x true f = R at *
  clear hM
  go_enter Tryz.func161, Tryz.ntmps161
  go_wp2
  go_loopg [5, 7] 5 (fun gk s i wr => ∃ c q : Nat, c + gk = 5 ∧ i = .int .i64 (c : Int) ∧ s = .int .i64 (cntB x true f c : Int) ∧ wr = w.drewN q)
  case atStart => exact ⟨0, 0, rfl, rfl, rfl, rfl⟩
  case round =>
    obtain ⟨c, q, hc, rfl, rfl, rfl⟩ := hrel
    by_cases hp : c < 5
    · obtain ⟨gq, rfl⟩ : ∃ gq, gk = gq + 1 := ⟨gk - 1, by omega⟩
      have HC := Lib.hid hc
      have hpi : (c : Int) < 5 := by omega
      have HL := Lib.hid fun W => letterOf_any (c : Int) W (by omega) (by omega)
      have HJ := Lib.hid fun W => joinR_any f (lt1 c) W hf (Nat.le_of_eq (lt1_size c))
      have HCT := Lib.hid fun (W : World) (h : MaxOK5 W) => contains_any x (joinB true f (lt1 c)) W hx h
      have HCN : Hid (cntB x true f (c + 1) = cntB x true f c + (if ctB x (joinB true f (lt1 c)) = true then 1 else 0)) := Lib.hid rfl
      have hcl := HCL.out c
      have HEN := Lib.hid (encode_letter c (by omega))
      have hcv : ∀ W, (convert 21 9 (.int .i32 (97 + (c : Int)))).run Tryz.prog W = .ok (.string (lt1 c)) W := fun W => by
        rw [run_convert_int_string W _ _ _ _ (by rw [Tryz.underlying21]; rfl) Tryz.underlying9, HEN.out]
      have h1 : (w.drewN q).cell? ⟨b1, 0, none⟩ = some (.string x) := k1
      have h2 : (w.drewN q).cell? ⟨b2, 0, none⟩ = some (.func (.func 130) #[] #[]) := k2
      have MW : Hid (MaxOK5 (w.drewN q)) := Lib.hid (HM.out.drewN q)
      clear hc
      generalize hWQ : w.drewN q = wq at *
      have HWQ := Lib.hid hWQ
      clear hWQ
      generalize cntB x true f c = n at *
      generalize joinB true f (lt1 c) = y at *
      generalize lt1 c = t at *
      cases hct : ctB x y with
      | true =>
        have HCC := Lib.hid hct
        rw [hct] at HCT
        clear hct
        go_wp2
        go_quiet (first | (go_at_call 163; exact Calls.quiet_of_same ((HL.out _).mono (by rintro e w' ⟨rfl, rfl⟩; exact ⟨rfl, rfl⟩))) | (go_at_call 130; exact Calls.quiet_of_same (HJ.out _)) | (go_at_call 162; exact Calls.quiet_of_same (HCT.out _ (MW.out.drewN _))))
        go_wp2
        go_roundg gq
        case measure => omega
        case rel => exact ⟨c + 1, q + nq, by have := HC.out; omega, by go_num, by rw [HCN.out, HCC.out]; rfl, by rw [← HWQ.out, drewN_drewN]⟩
      | false =>
        have HCC := Lib.hid hct
        rw [hct] at HCT
        clear hct
        go_wp2
        go_quiet (first | (go_at_call 163; exact Calls.quiet_of_same ((HL.out _).mono (by rintro e w' ⟨rfl, rfl⟩; exact ⟨rfl, rfl⟩))) | (go_at_call 130; exact Calls.quiet_of_same (HJ.out _)) | (go_at_call 162; exact Calls.quiet_of_same (HCT.out _ (MW.out.drewN _))))
        go_wp2
        go_roundg gq
        case measure => omega
        case rel => exact ⟨c + 1, q + nq, by have := HC.out; omega, by go_num, by rw [HCN.out, HCC.out]; rfl, by rw [← HWQ.out, drewN_drewN]⟩
    · obtain rfl : gk = 0 := by omega
      obtain rfl : c = 5 := by omega
      have hcl := HCL.out 5
      generalize cntB x true f 5 = n at *
      by_cases h2 : 2 ≤ n
      · have h2i : (2 : Int) ≤ (n : Int) := by omega
        have HR : Hid (R = true) := Lib.hid (by rw [HSP.out]; exact decide_eq_true h2)
        clear h2
        go_wp2
        go_ret
        exact ⟨by rw [HR.out]; rfl, q, rfl⟩
      · have h2i : ¬ (2 : Int) ≤ (n : Int) := by omega
        have HR : Hid (R = false) := Lib.hid (by rw [HSP.out]; exact decide_eq_false h2)
        clear h2
        go_wp2
        go_ret
        exact ⟨by rw [HR.out]; rfl, q, rfl⟩

set_option maxRecDepth 100000 in
theorem joinL_any (f t : ByteArray) (w : World) (hf : f.size ≤ 60) (ht : t.size ≤ 1) :
    Calls Tryz.prog 131 #[.string f, .string t] w fun e w' => e = .returned (.string (joinB false f t)) ∧ w' = w := by
  have hsum : ∀ W, (Op.stringOp .add t f).run Tryz.prog W = .ok (.string (joinB false f t)) W := fun W => run_string_add_sum W t f (by omega)
  go_enter Tryz.func131, Tryz.ntmps131
  go_wp2
  go_ret
  exact ⟨rfl, rfl⟩

set_option maxRecDepth 100000 in
set_option maxHeartbeats 2000000 in
theorem severalL_any (x f : ByteArray) (b1 b2 : Nat) (w : World) (hx : x.size ≤ 60) (hf : f.size ≤ 60) (k1 : w.cell? ⟨b1, 0, none⟩ = some (.string x)) (k2 : w.cell? ⟨b2, 0, none⟩ = some (.func (.func 131) #[] #[])) (hM : MaxOK5 w) :
    Calls Tryz.prog 161 #[.string f, .pointer (some ⟨b1, 0, none⟩), .pointer (some ⟨b2, 0, none⟩)] w fun e w' => e = .returned (.bool (spB x false f)) ∧ ∃ q, w' = w.drewN q := by
  have hmo : Tryz.prog.follows .mixedOrders = true := by kernel_rfl
  have HM := Lib.hid hM
  have HSP : Hid (spB x false f = decide (2 ≤ cntB x false f 5)) := Lib.hid rfl
  have HCL := Lib.hid fun n => cntB_le x false f n
  generalize spB x false f = R at *
  clear hM
  go_enter Tryz.func161, Tryz.ntmps161
  go_wp2
  go_loopg [5, 7] 5 (fun gk s i wr => ∃ c q : Nat, c + gk = 5 ∧ i = .int .i64 (c : Int) ∧ s = .int .i64 (cntB x false f c : Int) ∧ wr = w.drewN q)
  case atStart => exact ⟨0, 0, rfl, rfl, rfl, rfl⟩
  case round =>
    obtain ⟨c, q, hc, rfl, rfl, rfl⟩ := hrel
    by_cases hp : c < 5
    · obtain ⟨gq, rfl⟩ : ∃ gq, gk = gq + 1 := ⟨gk - 1, by omega⟩
      have HC := Lib.hid hc
      have hpi : (c : Int) < 5 := by omega
      have HL := Lib.hid fun W => letterOf_any (c : Int) W (by omega) (by omega)
      have HJ := Lib.hid fun W => joinL_any f (lt1 c) W hf (Nat.le_of_eq (lt1_size c))
      have HCT := Lib.hid fun (W : World) (h : MaxOK5 W) => contains_any x (joinB false f (lt1 c)) W hx h
      have HCN : Hid (cntB x false f (c + 1) = cntB x false f c + (if ctB x (joinB false f (lt1 c)) = true then 1 else 0)) := Lib.hid rfl
      have hcl := HCL.out c
      have HEN := Lib.hid (encode_letter c (by omega))
      have hcv : ∀ W, (convert 21 9 (.int .i32 (97 + (c : Int)))).run Tryz.prog W = .ok (.string (lt1 c)) W := fun W => by
        rw [run_convert_int_string W _ _ _ _ (by rw [Tryz.underlying21]; rfl) Tryz.underlying9, HEN.out]
      have h1 : (w.drewN q).cell? ⟨b1, 0, none⟩ = some (.string x) := k1
      have h2 : (w.drewN q).cell? ⟨b2, 0, none⟩ = some (.func (.func 131) #[] #[]) := k2
      have MW : Hid (MaxOK5 (w.drewN q)) := Lib.hid (HM.out.drewN q)
      clear hc
      generalize hWQ : w.drewN q = wq at *
      have HWQ := Lib.hid hWQ
      clear hWQ
      generalize cntB x false f c = n at *
      generalize joinB false f (lt1 c) = y at *
      generalize lt1 c = t at *
      cases hct : ctB x y with
      | true =>
        have HCC := Lib.hid hct
        rw [hct] at HCT
        clear hct
        go_wp2
        go_quiet (first | (go_at_call 163; exact Calls.quiet_of_same ((HL.out _).mono (by rintro e w' ⟨rfl, rfl⟩; exact ⟨rfl, rfl⟩))) | (go_at_call 131; exact Calls.quiet_of_same (HJ.out _)) | (go_at_call 162; exact Calls.quiet_of_same (HCT.out _ (MW.out.drewN _))))
        go_wp2
        go_roundg gq
        case measure => omega
        case rel => exact ⟨c + 1, q + nq, by have := HC.out; omega, by go_num, by rw [HCN.out, HCC.out]; rfl, by rw [← HWQ.out, drewN_drewN]⟩
      | false =>
        have HCC := Lib.hid hct
        rw [hct] at HCT
        clear hct
        go_wp2
        go_quiet (first | (go_at_call 163; exact Calls.quiet_of_same ((HL.out _).mono (by rintro e w' ⟨rfl, rfl⟩; exact ⟨rfl, rfl⟩))) | (go_at_call 131; exact Calls.quiet_of_same (HJ.out _)) | (go_at_call 162; exact Calls.quiet_of_same (HCT.out _ (MW.out.drewN _))))
        go_wp2
        go_roundg gq
        case measure => omega
        case rel => exact ⟨c + 1, q + nq, by have := HC.out; omega, by go_num, by rw [HCN.out, HCC.out]; rfl, by rw [← HWQ.out, drewN_drewN]⟩
    · obtain rfl : gk = 0 := by omega
      obtain rfl : c = 5 := by omega
      have hcl := HCL.out 5
      generalize cntB x false f 5 = n at *
      by_cases h2 : 2 ≤ n
      · have h2i : (2 : Int) ≤ (n : Int) := by omega
        have HR : Hid (R = true) := Lib.hid (by rw [HSP.out]; exact decide_eq_true h2)
        clear h2
        go_wp2
        go_ret
        exact ⟨by rw [HR.out]; rfl, q, rfl⟩
      · have h2i : ¬ (2 : Int) ≤ (n : Int) := by omega
        have HR : Hid (R = false) := Lib.hid (by rw [HSP.out]; exact decide_eq_false h2)
        clear h2
        go_wp2
        go_ret
        exact ⟨by rw [HR.out]; rfl, q, rfl⟩

end Go.Proofs.YtbhgghajbdlfkabGreat
