/- The different return words: the program. -/
import Derived.Test.YtbhgghajbdlfkabGapsI
import Derived.Test.YtbhgghajbdlfkabWordSet
import Derived.Test.YtbhgghajbdlfkabFactorsI
import Derived.Test.YtbhgghajbdlfkabIter
import Derived.Test.YtbhgghajbdlfkabFactor
import Derived.Deep.LoopGhost
import Derived.Deep.RegionHeld3
import Derived.IntWalk
namespace Go.Proofs.Ytbhgghajbdlfkab
set_option linter.unusedVariables false
set_option linter.unusedSimpArgs false
open Go.RowKit Go.Maps Go.Sort

theorem slice_ab (x : ByteArray) (a b : Int) (n m : Nat) (ha : a = n) (hb : b = m) (h : n ≤ m) (hm : m ≤ x.size) (W : World) :
    (Instr.slice 9 (.string x) (some (.int .i64 a)) (some (.int .i64 b)) none).run Try.prog W = .ok (.string (x.extract n m)) W := by
  subst ha hb
  have := slice_mid x n (m - n) (by omega) W
  rw [show n + (m - n) = m by omega] at this
  have e : (n : Int) + ((m - n : Nat) : Int) = (m : Int) := by omega
  rw [e] at this
  exact this
theorem retP_two (x u : ByteArray) : (insA (retW x (retP x u 2).1), (retP x u 2).2) = retsR x u := by
  unfold retP retsR
  split
  · rfl
  · split
    · rfl
    · split <;> rfl
theorem grown_trans5 {A B C : World} {r : Option Nat} (h : A.grownBy B r) (k : B.grownBy C r) : A.grownBy C r :=
  ⟨k.os.trans h.os, k.tape.trans h.tape, k.output.trans h.output, Nat.le_trans h.size k.size, fun j hj hne => (k.block j (Nat.lt_of_lt_of_le hj h.size) hne).trans (h.block j hj hne)⟩
def StepsOK (L : List Int) (n : Nat) : Prop := ∀ i (h : i + 1 < L.length), 0 ≤ L[i] ∧ L[i] < L[i + 1] ∧ L[i + 1] ≤ n ∧ n ≤ 60
theorem retP_step (x u : ByteArray) (n : Nat) : StepsOK (retP x u n).1 x.size := by
  unfold retP
  split
  · intro i h; simp at h
  · rename_i hw
    have hw := Classical.not_not.1 hw
    split
    · intro i h; simp at h
    · rename_i hu0
      split
      · intro i h; simp at h
      · intro i hi
        have h1 := posOf_step hi
        refine ⟨h1.1, h1.2.1, ?_, hw.1.size⟩
        have h2 := h1.2.2
        show (posOf x u (List.range (x.size + 1 - u.size)))[i + 1] ≤ _
        omega

set_option maxRecDepth 100000 in
set_option maxHeartbeats 2000000 in
theorem impl_ReturnWords (x u : ByteArray) (w : World) (sx : x.size ≤ maxLen) (su : u.size ≤ maxLen) :
    Calls Try.prog 28 #[.string x, .string u] w (RetS (retsR x u).1 (retsR x u).2 w) := by
  have hs := retP_small x u 2
  have HST := retP_step x u 2
  have HC := Lib.hid (returningPlaces_any x u 2 w sx su (by decide))
  have hmm := @run_makeMap Try.prog
  have hmx : Try.prog.follows .mixedOrders = true := by kernel_rfl
  rw [← retP_two]
  dsimp only
  generalize (retP x u 2).2 = c at *
  generalize (retP x u 2).1 = P at *
  have HS := Lib.hid hs
  have HST := Lib.hid HST
  clear hs
  go_enter Try.func28, Try.ntmps28
  go_wp2_with fail
  refine HC.out.mono ?_
  rintro e w1 ⟨v, rfl, o1, b1⟩
  have oA := OwnI.below o1 (Below.new w1 (.map #[] 0))
  go_wp2_with fail
  refine (gapsBetween_any P _ v _ oA HS.out.1 HS.out.2).mono ?_
  rintro e w2 ⟨v2, rfl, o2, b2⟩
  have B2 : Below w1.heap.size w1 w2 := (Below.new w1 _).trans (b2.mono (by simp))
  have hm0 : w2.ownsMap Try.prog 9 (plainElem (H := Unit) Try.prog 4) w1.heap.size 0 (setW ((retW x P).take 0)) :=
    (World.ownsMap_made w1 Try.prog 9 (plainElem (H := Unit) Try.prog 4)).kept (row := none) ⟨b2.os, b2.tape, b2.output, b2.size, fun k hk _ => b2.block k hk⟩ (by simp)
  have hGl := gapsOf_len P
  have hz2 : w1.heap.size < w2.heap.size := by have := b2.size; simp at this; omega
  obtain ⟨aP, cP, rfl, kP⟩ := o1.lookG
  obtain ⟨aG, cG, rfl, kG⟩ := o2.lookG
  have KP := Lib.hid kP
  have KG := Lib.hid kG
  have HGG := Lib.hid fun i h => gapsOf_get P i h
  have HPL := Lib.hid HS.out.1
  have hRW := retW_len x P
  clear o1 oA o2 kP kG b2
  go_wp2
  go_loopg [21] (gapsOf P).length (fun gk i wr => ∃ k : Nat, k + gk = (gapsOf P).length ∧ i = .int .i64 (k : Int) ∧ wr.ownsMap Try.prog 9 (plainElem (H := Unit) Try.prog 4) w1.heap.size k (setW ((retW x P).take k)) ∧ Below w1.heap.size w1 wr ∧ w2.grownBy wr (some w1.heap.size))
  case atStart => exact ⟨0, by omega, rfl, hm0, B2, ⟨rfl, rfl, rfl, Nat.le_refl _, fun _ _ _ => rfl⟩⟩
  case round =>
    clear hm0 B2
    obtain ⟨k, hk, rfl, hown, hB, hgr⟩ := hrel
    by_cases hp : k < (gapsOf P).length
    · obtain ⟨gq, rfl⟩ : ∃ gq, gk = gq + 1 := ⟨gk - 1, by omega⟩
      have hp2 : k + 1 < P.length := by omega
      have HK := Lib.hid hk
      obtain ⟨gG, rfl, hbG, hgG, hcG, hG0⟩ := KG.out k hp
      obtain ⟨gP, rfl, hbP, hgP, hcP, hP0⟩ := KP.out k (by omega)
      have cG0 : wr.cell? ⟨gG, k, none⟩ = some (.int .i64 ((gapsOf P)[k]'hp)) := (hgr.cell_far ⟨gG, k, none⟩ (by show gG < _; omega) (by intro e; have e2 : gG = w1.heap.size := Option.some.inj e; simp at hbG; omega)).trans hG0
      have cP0 : wr.cell? ⟨gP, k, none⟩ = some (.int .i64 (P[k]'(by omega))) := ((bcell hB).1 gP k hgP).trans hP0
      have HT := Lib.hid (HGG.out k hp2)
      have hst := HST.out k hp2
      have HRT : Hid ((retW x P).take (k + 1) = (retW x P).take k ++ [x.extract (P[k]'(by omega)).toNat (P[k + 1]'hp2).toNat]) := Lib.hid (retW_take x P k hp2)
      generalize (gapsOf P)[k]'hp = d at *
      generalize P[k]'(by omega) = a at *
      generalize P[k + 1]'hp2 = b at *
      generalize (retW x P).take k = seen at *
      obtain ⟨n1, rfl⟩ := Int.eq_ofNat_of_zero_le hst.1
      obtain ⟨m1, rfl⟩ := Int.eq_ofNat_of_zero_le (show 0 ≤ b by omega)
      have hd : d = (m1 : Int) - (n1 : Int) := HT.out
      have hxs := hst.2.2.1
      have hys : (x.extract n1 m1).size ≤ 60 := by simp; omega
      have hsl := fun W => slice_ab x (n1 : Int) ((n1 : Int) + d) n1 m1 rfl (by omega) (by omega) (by omega) W
      have HRT2 : Hid ((retW x P).take (k + 1) = seen ++ [x.extract n1 m1]) := HRT
      have hkey := keyStr (s := x.extract n1 m1) (by unfold maxLen; omega)
      have UPD := fun (W2 : World) (g : wr.grownBy W2 none) => (hown.kept g (by simp)).update (string_keyed Try.underlying9) Try.underlying90 (show k < maxLen by have := HPL.out; unfold maxLen; omega) hkey (plainElem_bool (H := Unit) Try.underlying4 true)
      have HUPD := Lib.hid UPD
      have wq1 : IntKind.i64.wrap ((n1 : Int) + d) = (n1 : Int) + d := IntWalk.i64_in _ (by omega)
      have hpi : (k : Int) < ((gapsOf P).length : Int) := by omega
      have hd0 : -100 ≤ d ∧ d ≤ 100 := by omega
      have hn1 : n1 ≤ 60 := by omega
      have hk100 : k ≤ 100 := by have := HPL.out; omega
      have hpl : k < P.length := by omega
      have hPw : gP < wr.heap.size := by have := hB.size; omega
      clear hk hG0 hP0 hkey UPD hst HT HRT hd hxs
      generalize x.extract n1 m1 = y at *
      go_wp2
      go_region_held3 (fun w' => w'.cell? ⟨gP, k, none⟩ = some (.int .i64 (n1 : Int))) (first | go_keep | (rw [hgr3.cell_far _ (by show gP < _; omega) (by intro e; have e2 : gP = w1.heap.size := Option.some.inj e; omega)]; assumption))
        (first | (go_at_call 62; refine (strings_Clone _ _ (by omega)).mono ?_; rintro e w3 ⟨rfl, b3⟩; have g3 : wr.grownBy w3 none := ⟨b3.os, b3.tape, b3.output, b3.size, fun k hk _ => b3.block k hk⟩; have hc3 := (bcell b3).1 gP k hPw; have hz3 : gP < w3.heap.size := Nat.lt_of_lt_of_le hPw b3.size; obtain ⟨w4, hrun, hown4, hgr3⟩ := HUPD.out w3 g3))
      have g3' : wr.grownBy w3 (some w1.heap.size) := ⟨g3.os, g3.tape, g3.output, g3.size, fun k hk _ => g3.block k hk (by simp)⟩
      have hgr4 := grown_trans5 (grown_trans5 hgr g3') hgr3
      have hB3 : Below w1.heap.size w1 w3 := hB.grown g3 hB.size (fun _ e => by cases e)
      have hB4 : Below w1.heap.size w1 w4 := hB3.grown hgr3 hB3.size (fun _ e => by cases e; exact Nat.le_refl _)
      go_wp2
      go_roundg gq
      case measure => omega
      case rel => exact ⟨k + 1, by have h8 := HK.out; omega, by go_num, by rw [HRT2.out, setW_snoc]; exact hown4, hB4, hgr4⟩
    · obtain rfl : gk = 0 := by omega
      have hkr : (retW x P).take k = retW x P := List.take_of_length_le (by omega)
      rw [hkr] at hown
      have hlen : (retW x P).length ≤ 100 := by have := HPL.out; omega
      have hsz := setW_size (retW x P) hown (string_keyed Try.underlying9) Try.underlying9
      have hpm := setW_perm (retW x P) hown (string_keyed Try.underlying9) Try.underlying9
      have cS := Try.slices_Sorted_keys_71_72 w1.heap.size _ _ _ wr hown (by unfold maxLen; omega) (by omega)
      have CS := Lib.hid cS
      have HP := Lib.hid hpm
      have hpi : ¬ (k : Int) < ((gapsOf P).length : Int) := by omega
      clear cS hpm hown hk hkr hsz
      go_wp2_with (first
        | (go_at_call 72; refine (callsIn_wide.1 (Try.maps_Keys_72 _ _)).mono ?_; rintro e w3 ⟨rfl, rfl⟩)
        | (go_at_call 71; refine (callsIn_wide.1 CS.out).mono ?_; rintro e w4 ⟨v4, ss, rfl, hS, hrow, hnil, hb⟩; have HR := Lib.hid hrow; have HSS := Lib.hid hS; clear hrow hnil hS))
      go_ret2
      have hp2 := HSS.out.trans HP.out.symm
      have e1 := setW_sorted (retW x P) ss hp2
      have e2 : ss.length = (insA (retW x P)).length := by rw [hp2.length_eq, List.length_map]
      have hr2 := HR.out
      have hr3 : w4.ownsRow (wr.alloc (.cells #[.map (some w1.heap.size)] 90)).heap.size 9 1 v4 (insA (retW x P)).length ((insA (retW x P)).map Value.string) := by
        rw [← e1, ← e2]; exact hr2
      have hbz := hB.size
      have hwz := b1.size
      exact ⟨v4, rfl, own_base hr3 (by simp; omega), b1.then ((hB.alloc hbz _).then (hb.mono (by simp)))⟩

end Go.Proofs.Ytbhgghajbdlfkab
