/- Words with names: the program. -/
import Derived.Test.YtedpbfddoobnnabNamed
namespace Go.Proofs.Ytedpbfddoobnnab
set_option linter.unusedVariables false
set_option linter.unusedSimpArgs false
open Go.RowKit

set_option maxRecDepth 100000 in
set_option maxHeartbeats 4000000 in
theorem impl_NamedWord (s : ByteArray) (m : Int) (w : World) (sx : s.size ≤ maxLen) (wm : (Lit.int .i64 m).wf = true) :
    Calls Try.prog 36 #[.string s, .int .i64 m] w fun e w' => e = .returned (.tuple #[.string (namedR s m).1, .int .i64 (namedR s m).2]) ∧ Below w.heap.size w w' := by
  by_cases hb : m < 0 ∨ 60 < m
  · rw [namedR_out hb]
    rcases hb with hb | hb
    · go_enter Try.func36, Try.ntmps36
      go_wp2
      go_ret2
      exact ⟨rfl, Below.refl _ _⟩
    · have h0 : 0 ≤ m := by omega
      go_enter Try.func36, Try.ntmps36
      go_wp2
      go_ret2
      exact ⟨rfl, Below.refl _ _⟩
  · rcases way_of s with ⟨hid, hw⟩ | ⟨d, hd, hid, hw⟩
    · rw [namedR_none hb hid]
      have h0 : 0 ≤ m := by omega
      have h1 : m ≤ 60 := by omega
      have HW := Lib.hid hw
      clear hb hid hw
      have hnil : ∀ (a : Option Addr) (n c : Nat) (W : World), (binOp .eql 29 (.slice a n c) (.slice none 0 0)).run Try.prog W = .ok (.bool a.isNone) W := fun a n c W => Lib.run_eql_slice_nil W _ _ a n c 0 0 Try.underlying29
      go_enter Try.func36, Try.ntmps36
      go_wp2_with fail
      refine (images_none s _ HW.out).mono ?_
      rintro e w1 ⟨rfl, b1⟩
      go_wp2_with fail
      go_ret2
      exact ⟨rfl, b1⟩
    · obtain ⟨m, rfl⟩ := Int.eq_ofNat_of_zero_le (show 0 ≤ m by omega)
      have hm : m ≤ 60 := by omega
      rw [namedR_some hm hid]
      have HW := Lib.hid hw
      have HG := Lib.hid (imgs_good d hd)
      have HE := Lib.hid (named_eq d hd m (by omega))
      have HI : Hid (implRun (imgs d) m 60 ((imgs d).getD 0 []) 1 = namedI d m) := Lib.hid rfl
      clear hb hid hw
      have hnil : ∀ (a : Option Addr) (n c : Nat) (W : World), (binOp .eql 29 (.slice a n c) (.slice none 0 0)).run Try.prog W = .ok (.bool a.isNone) W := fun a n c W => Lib.run_eql_slice_nil W _ _ a n c 0 0 Try.underlying29
      go_enter Try.func36, Try.ntmps36
      go_wp2_with fail
      refine (images_some s d _ hd HW.out).mono ?_
      rintro e w1 ⟨v, rfl, o1, b1⟩
      generalize hIm : imgs d = I at *
      have hl2 := HG.out.2.1
      have hl3 := HG.out.2.2.1
      obtain ⟨g, cp, rfl, hg, hcp, cell⟩ := o1.rowS (by omega)
      have C := Lib.hid cell
      clear hIm o1 cell
      have c0 := C.out 0 (by omega)
      have h0m := HG.out.2.2.2.1
      have hI0 : I[0]'(by omega) = I.getD 0 [] := by rw [List.getD_eq_getElem?_getD, List.getElem?_eq_getElem (by omega)]; rfl
      rw [hI0] at c0
      have hgood0 : (I.getD 0 []).length ≤ 3 ∧ lets I (I.getD 0 []) := by
        have := HG.out.1 (I.getD 0 []) (by rw [← hI0]; exact List.getElem_mem _)
        exact this.2
      have HL0 := Lib.hid hgood0.2
      have h03 := hgood0.1
      clear hI0 hgood0
      generalize hst : I.getD 0 [] = l0 at *
      have hcp0 : 0 < cp := by omega
      have hIl : 0 < I.length := by omega
      have hbz : (bt l0).size = l0.length := rfl
      generalize hq0 : bt l0 = t0 at *
      have HQ0 := Lib.hid hq0
      have HBZ := Lib.hid hbz
      clear hst hq0 hbz
      go_wp2_with fail
      go_loopw [7, 8] (fun o q wr => ∃ (i f : Nat) (l : List UInt8) (t : ByteArray), q = .int .i64 i ∧ o = .string t ∧ Hid (t = bt l) ∧ Hid (t.size = l.length) ∧ i + 1 ≤ l.length ∧ l.length ≤ 63 ∧ m ≤ l.length + f ∧ wr = w1 ∧ Hid (lets I l) ∧ Hid (implRun I m f l i = namedI d m)) (fun o _ _ => m - szOf o)
      case atStart => exact ⟨1, 60, l0, t0, rfl, rfl, Lib.hid HQ0.out.symm, HBZ, by omega, by omega, by omega, rfl, HL0, HI⟩
      case round =>
        obtain ⟨i, f, l, t, rfl, rfl, HT, HS, hil, hl63, hf, rfl, HLE, HR⟩ := hrel
        clear c0
        by_cases hlt : l.length < m
        · obtain ⟨f, rfl⟩ : ∃ k, f = k + 1 := ⟨f - 1, by omega⟩
          have hts := HS.out
          have hit : i < t.size := by omega
          have hti : t[i]'hit = l.getD i 0 := by
            have h1 : i < l.length := by omega
            have h2 : i < (bt l).size := h1
            have h3 : (bt l)[i]'h2 = l[i]'h1 := rfl
            have h4 : t[i]'hit = (bt l)[i]'h2 := by
              have := HT.out
              subst this
              rfl
            rw [h4, h3, List.getD_eq_getElem?_getD, List.getElem?_eq_getElem h1]
            rfl
          have hle := HLE.out (l.getD i 0) (by
            rw [List.getD_eq_getElem?_getD, List.getElem?_eq_getElem (show i < l.length by omega)]
            exact List.getElem_mem _)
          have hstep := implRun_step (I := I) (f := f) (i := i) hlt
          have hmem := img_mem hle.2
          have hgi := HG.out.1 _ hmem
          have hcell := C.out _ hle.2
          rw [show I[(l.getD i 0).toNat - 97]'hle.2 = img I (l.getD i 0) by unfold img; rw [List.getD_eq_getElem?_getD (l := I), List.getElem?_eq_getElem hle.2]; rfl] at hcell
          rw [← hti] at hle hstep hgi hcell
          generalize hr : img I (t[i]'hit) = r at *
          have HST := Lib.hid hstep
          obtain ⟨a1, a2⟩ := hle
          obtain ⟨r1, r3, hrl⟩ := hgi
          have HLE2 := Lib.hid (lets_app HLE.out hrl)
          obtain ⟨n, hn⟩ : ∃ n : Nat, ((t[i]'hit).toNat : Int) = (n : Int) + 97 := ⟨(t[i]'hit).toNat - 97, by omega⟩
          have hnn : (t[i]'hit).toNat - 97 = n := by omega
          rw [hnn] at hcell a2
          have e1 : ((t[i]'hit).toNat : Int) - 97 = n := by omega
          have hncp : n < cp := by omega
          have hb255 : (t[i]'hit).toNat ≤ 255 := by have := (t[i]'hit).toNat_lt; omega
          have happ : t ++ bt r = bt (l ++ r) := by rw [HT.out, bt_app]
          have hrs : (bt r).size = r.length := rfl
          have hasz : (t ++ bt r).size = (l ++ r).length := by rw [happ]; rfl
          have HAP := Lib.hid happ
          have HAS := Lib.hid hasz
          have hlr : (l ++ r).length = l.length + r.length := List.length_append
          have HLR := Lib.hid hlr
          generalize hbr : bt r = tr at *
          have hts60 : t.size ≤ 63 := by omega
          have htr : tr.size ≤ 3 := by omega
          have hltm : (t.size : Int) < (m : Int) := by omega
          clear hti hstep hmem hr hrl hnn happ hrs hasz hlr hbr hts hlt hn
          go_wp2_with fail
          go_roundw
          case rel =>
            have q1 := HS.out
            have q2 := HLR.out
            exact ⟨i + 1, f, l ++ r, t ++ tr, by go_num, rfl, Lib.hid HAP.out, HAS, by omega, by omega, by omega, by first | rfl | trivial, HLE2, Lib.hid (by rw [← HR.out, HST.out])⟩
          case measure =>
            have q1 := HS.out
            have q2 := HLR.out
            have q3 := HAS.out
            show m - (t ++ tr).size < m - t.size
            omega
        · have hR := HR.out
          rw [implRun_end hlt] at hR
          have hx : t.extract 0 m = bt ((namedS d m).take m) := by rw [HT.out, bt_take, hR, HE.out]
          have HX := Lib.hid hx
          have hts := HS.out
          have hge : m ≤ t.size := by omega
          clear hR hx hts hlt
          go_wp2_with fail
          go_ret2
          exact ⟨by rw [← HX.out]; rfl, b1⟩

end Go.Proofs.Ytedpbfddoobnnab
