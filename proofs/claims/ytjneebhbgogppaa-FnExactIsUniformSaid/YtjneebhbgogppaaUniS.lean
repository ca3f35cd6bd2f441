/- Uniform morphisms: the model. -/
import Derived.Test.YtjneebhbgogppaaMorC
import Derived.Test.YtjneebhbgogppaaLensPlain
namespace Go.Proofs.Ytjneebhbgogppaa
set_option linter.unusedVariables false
set_option linter.unusedSimpArgs false
open Go.RowKit

set_option maxRecDepth 100000 in
set_option maxHeartbeats 1000000 in
theorem spec_IsUniform (B : Nat) (v : Value) (I : List (List UInt8)) (w : World) (h : OwnS w B v (I.map bt)) (t : Tot I) :
    Calls Try.prog 42 #[.agg #[v]] w fun e w' => e = .returned (.tuple #[.bool (uniR I).1, .int .i64 (uniR I).2]) ∧ Below w.heap.size w w' := by
  by_cases g : Mor I
  · obtain ⟨R, hR⟩ : ∃ R, uniR I = R := ⟨_, rfl⟩
    rw [hR]
    have HY := Lib.hid (fun (u : Uni I) => (hR.symm.trans (uniR_yes g u) : R = (true, 0)))
    have HN := Lib.hid (fun (u : ¬ Uni I) => (hR.symm.trans (uniR_no g u) : R = (false, 0)))
    have h1 := g.len1
    have h5 := g.len5
    obtain ⟨p, cap, rfl, hg, hc, cell⟩ := h.rowM (by omega)
    have BN : Below w.heap.size w (w.alloc (.cells #[.slice (some ⟨p, 0, none⟩) I.length cap] 27)) := Below.new _ _
    have QN : Boxed (w.alloc (.cells #[.slice (some ⟨p, 0, none⟩) I.length cap] 27)) w.heap.size 27 (.slice (some ⟨p, 0, none⟩) I.length cap) := Boxed.new _ _ _
    have HBN := Lib.hid BN
    have HQN := Lib.hid QN
    have H := Lib.hid (h.below BN)
    have C := Lib.hid cell
    have G := Lib.hid g
    have c1 := fun W h => l06Is_yes B (.slice (some ⟨p, 0, none⟩) I.length cap) I W h g
    have C1 := Lib.hid c1
    clear c1 g h cell BN QN hR
    go_enter Try.func42, Try.ntmps42
    go_wp2_with fail
    refine (C1.out _ H.out).mono ?_
    rintro e w1 ⟨rfl, b1⟩
    have q1 := boxed_later HQN.out b1
    have B1 := HBN.out.then b1
    have Q1 := Lib.hid q1
    clear q1 b1
    go_wp2_with fail
    go_loopw [4] (fun s wr => ∃ i : Nat, 1 ≤ i ∧ i ≤ I.length ∧ s = .int .i64 (i : Int) ∧ Hid (UniTo I i) ∧ Below w1.heap.size w1 wr) (fun s _ => I.length - (intOf s).toNat)
    case atStart => exact ⟨1, Nat.le_refl _, h1, rfl, Lib.hid (UniTo.one I), Below.refl _ _⟩
    case round =>
      obtain ⟨i, hi1, hi, rfl, HU, hB⟩ := hrel
      have kr := (boxed_later Q1.out hB).cell
      have BW := B1.then hB
      by_cases hp : i < I.length
      · have kc : wr.cell? ⟨p, i, none⟩ = some (.string (bt (I[i]'hp))) := by rw [(bcell BW).1 p i hg]; exact C.out i hp
        have k0 : wr.cell? ⟨p, 0, none⟩ = some (.string (bt (I[0]'(by omega)))) := by rw [(bcell BW).1 p 0 hg]; exact C.out 0 (by omega)
        have z12 : (bt (I[i]'hp)).size ≤ 12 := (G.out.im i hp).1
        have y12 : (bt (I[0]'(by omega))).size ≤ 12 := (G.out.im 0 (by omega)).1
        have hzi : (bt (I[i]'hp)).size = il I i := (il_get hp).symm
        have hyi : (bt (I[0]'(by omega))).size = il I 0 := (il_get (by omega)).symm
        have HZ := Lib.hid hzi
        have HYY := Lib.hid hyi
        have hic : i < cap := by omega
        have h0c : 0 < cap := by omega
        clear hzi hyi
        generalize bt (I[i]'hp) = z at *
        generalize bt (I[0]'(by omega)) = y at *
        by_cases he : z.size = y.size
        · have HU2 := Lib.hid (HU.out.succ (by rw [← HZ.out, ← HYY.out, he]))
          have hei : (z.size : Int) = (y.size : Int) := by omega
          have hb1 : ((z.size : Int) == (y.size : Int)) = true := by simp [hei]
          have hb2 : ((z.size : Int) != (y.size : Int)) = false := by simp [hei]
          clear he hei
          go_wp2_with fail
          go_quiet (fail)
          go_wp2_with fail
          go_roundw
          case rel => exact ⟨i + 1, by omega, by omega, by go_num, HU2, hB.drewN _⟩
          case measure => simp [intOf]; omega
        · have HV := Lib.hid (HN.out (fun u => he (by rw [HZ.out, HYY.out, u i hp])))
          have hei : ¬ (z.size : Int) = (y.size : Int) := by omega
          have hb1 : ((z.size : Int) == (y.size : Int)) = false := by simp; omega
          have hb2 : ((z.size : Int) != (y.size : Int)) = true := by simp; omega
          clear he
          go_wp2_with fail
          go_quiet (fail)
          go_wp2_with fail
          go_ret2
          exact ⟨by rw [HV.out]; rfl, BW.drewN _⟩
      · have HV := Lib.hid (HY.out (fun j hj => HU.out j (by omega)))
        go_wp2_with fail
        go_ret2
        exact ⟨by rw [HV.out]; rfl, BW⟩
  · obtain ⟨p, c, hv⟩ := ownS_value h
    rw [List.length_map] at hv
    subst hv
    have hI := t.1
    have BN : Below w.heap.size w (w.alloc (.cells #[.slice p I.length c] 27)) := Below.new _ _
    have QN : Boxed (w.alloc (.cells #[.slice p I.length c] 27)) w.heap.size 27 (.slice p I.length c) := Boxed.new _ _ _
    have HBN := Lib.hid BN
    have HQN := Lib.hid QN
    have H := Lib.hid (h.below BN)
    clear BN QN h
    rw [uniR_bad g]
    have c1 := fun W h => l06Is_no B (.slice p I.length c) I W h t g
    have C1 := Lib.hid c1
    clear c1 g
    go_enter Try.func42, Try.ntmps42
    go_wp2_with fail
    refine (C1.out _ H.out).mono ?_
    rintro e w1 ⟨rfl, b1⟩
    have B1 := HBN.out.then b1
    go_wp2_with fail
    go_ret2
    exact ⟨rfl, B1⟩
end Go.Proofs.Ytjneebhbgogppaa
