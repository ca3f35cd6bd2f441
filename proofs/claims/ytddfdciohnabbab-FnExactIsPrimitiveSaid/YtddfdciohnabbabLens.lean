/- The numbers of letters of images, as an array; uniform morphisms. -/
import Derived.Test.YtddfdciohnabbabVec
import Derived.Test.YtddfdciohnabbabLensPlain
namespace Go.Proofs.Ytddfdciohnabbab
set_option linter.unusedVariables false
set_option linter.unusedSimpArgs false
open Go.RowKit

set_option maxRecDepth 100000 in
set_option maxHeartbeats 2000000 in
theorem lettersOf_any (B : Nat) (v : Value) (I : List (List UInt8)) (w : World) (h : OwnS w B v (I.map bt)) (g : Mor I) :
    Calls Try.prog 138 #[.agg #[v]] w fun e w' => e = .returned (vecV (lenF I I.length)) ∧ Below w.heap.size w w' := by
  have h1 := g.len1
  have h5 := g.len5
  obtain ⟨p, cap, rfl, hg, hc, cell⟩ := h.rowM (by omega)
  obtain ⟨W1, hW1⟩ : ∃ W1 : World, W1 = ((w.alloc (.cells #[.slice (some ⟨p, 0, none⟩) I.length cap] 57)).alloc (.cells #[.int .i64 0, .int .i64 0, .int .i64 0, .int .i64 0, .int .i64 0] 91)).alloc (.cells #[.int .i64 0, .int .i64 0, .int .i64 0, .int .i64 0, .int .i64 0] 91) := ⟨_, rfl⟩
  have a2 : Arr5 W1 (w.heap.size + 1) (fun _ => 0) := by
    have := Arr5.new (w.alloc (.cells #[.slice (some ⟨p, 0, none⟩) I.length cap] 57)) (fun _ => 0)
    rw [World.size_alloc] at this
    rw [hW1]
    exact this.later (Below.new _ _)
  have a3 : Arr5 W1 (w.heap.size + 1 + 1) (fun _ => 0) := by
    have := Arr5.new ((w.alloc (.cells #[.slice (some ⟨p, 0, none⟩) I.length cap] 57)).alloc (.cells #[.int .i64 0, .int .i64 0, .int .i64 0, .int .i64 0, .int .i64 0] 91)) (fun _ => 0)
    simp only [World.size_alloc] at this
    rw [hW1]
    exact this
  have B1 : Below w.heap.size w W1 := by rw [hW1]; exact ((Below.new _ _).alloc (by simp) _).alloc (by simp; omega) _
  have C := Lib.hid cell
  have G := Lib.hid g
  have HW1 := Lib.hid hW1
  have A2 := Lib.hid a2
  have A3 := Lib.hid (a3.congr (g := lenF I 0) (fun j _ => by unfold lenF; rw [if_neg (by omega)]))
  clear h cell g a2 a3 hW1
  go_enter Try.func138, Try.ntmps138
  go_wp2_with fail
  rw [← HW1.out]
  go_loopw [9] (fun t wr => ∃ i : Nat, i ≤ I.length ∧ t = .int .i64 (i : Int) ∧ Arr5 wr (w.heap.size + 1) (fun _ => 0) ∧ Arr5 wr (w.heap.size + 1 + 1) (lenF I i) ∧ Below w.heap.size w wr) (fun t _ => I.length - (intOf t).toNat)
  case atStart => exact ⟨0, Nat.zero_le _, rfl, A2.out, A3.out, B1⟩
  case round =>
    obtain ⟨i, hi, rfl, a2, a3, hB⟩ := hrel
    by_cases hp : i < I.length
    · have kc : wr.cell? ⟨p, i, none⟩ = some (.string (bt (I[i]'hp))) := by rw [(bcell hB).1 p i hg]; exact C.out i hp
      have s12 : (bt (I[i]'hp)).size ≤ 12 := (G.out.im i hp).1
      have hil : (bt (I[i]'hp)).size = il I i := (il_get hp).symm
      have hi5 : i < 5 := by omega
      have k3 := a3.cell i hi5
      have f3 := a3.frozen i
      have hS := (a3.set i hi5 (il I i)).congr (g := lenF I (i + 1)) (fun j _ => by
        unfold lenF
        by_cases e : j = i
        · subst e; rw [if_pos rfl, if_pos (by omega)]
        · rw [if_neg e]
          by_cases e2 : j < i
          · rw [if_pos e2, if_pos (by omega)]
          · rw [if_neg e2, if_neg (by omega)])
      rw [← hil] at hS
      have HO := Lib.hid (a2.other (b' := w.heap.size + 1 + 1) (j := i) (by omega) (.int .i64 ((bt (I[i]'hp)).size : Int)))
      have HB := Lib.hid (hB.setCell (p := ⟨w.heap.size + 1 + 1, i, none⟩) (by show _ ≤ w.heap.size + 1 + 1; omega) (.int .i64 ((bt (I[i]'hp)).size : Int)))
      have HS := Lib.hid hS
      clear hS hil a2 a3
      generalize bt (I[i]'hp) = z at *
      generalize lenF I i i = y at k3
      have hic : i < cap := by omega
      have hi0 : (0 : Int) ≤ (i : Int) := by omega
      have hi5i : (i : Int) < 5 := by omega
      go_wp2_with fail
      go_roundw
      case rel => exact ⟨i + 1, by omega, by go_num, HO.out, HS.out, HB.out⟩
      case measure => simp [intOf]; omega
    · have hie : i = I.length := by omega
      subst hie
      have k0 := a3.cell 0 (by omega)
      have k1 := a3.cell 1 (by omega)
      have k2 := a3.cell 2 (by omega)
      have k3 := a3.cell 3 (by omega)
      have k4 := a3.cell 4 (by omega)
      have r0 := a2.cell 0 (by omega)
      have r1 := a2.cell 1 (by omega)
      have r2 := a2.cell 2 (by omega)
      have r3 := a2.cell 3 (by omega)
      have r4 := a2.cell 4 (by omega)
      have f0 := a2.frozen 0
      have f1 := a2.frozen 1
      have f2 := a2.frozen 2
      have f3 := a2.frozen 3
      have f4 := a2.frozen 4
      generalize h0 : lenF I I.length 0 = x0 at *
      generalize h1 : lenF I I.length 1 = x1 at *
      generalize h2 : lenF I I.length 2 = x2 at *
      generalize h3 : lenF I I.length 3 = x3 at *
      generalize h4 : lenF I I.length 4 = x4 at *
      have S5 := ((((a2.set 0 (by omega) x0).set 1 (by omega) x1).set 2 (by omega) x2).set 3 (by omega) x3).set 4 (by omega) x4
      have S := Lib.hid S5
      have hBB := ((((hB.setCell (p := ⟨w.heap.size + 1, 0, none⟩) (by show _ ≤ w.heap.size + 1; omega) (.int .i64 (x0 : Int))).setCell (p := ⟨w.heap.size + 1, 1, none⟩) (by show _ ≤ w.heap.size + 1; omega) (.int .i64 (x1 : Int))).setCell (p := ⟨w.heap.size + 1, 2, none⟩) (by show _ ≤ w.heap.size + 1; omega) (.int .i64 (x2 : Int))).setCell (p := ⟨w.heap.size + 1, 3, none⟩) (by show _ ≤ w.heap.size + 1; omega) (.int .i64 (x3 : Int))).setCell (p := ⟨w.heap.size + 1, 4, none⟩) (by show _ ≤ w.heap.size + 1; omega) (.int .i64 (x4 : Int))
      have HB := Lib.hid hBB
      have E0 := Lib.hid h0
      have E1 := Lib.hid h1
      have E2 := Lib.hid h2
      have E3 := Lib.hid h3
      have E4 := Lib.hid h4
      clear a2 a3 hB S5 hBB h0 h1 h2 h3 h4
      go_wp2_with fail
      refine bodyPost_ret (v := .agg #[.int .i64 (x0 : Int), .int .i64 (x1 : Int), .int .i64 (x2 : Int), .int .i64 (x3 : Int), .int .i64 (x4 : Int)]) ?_ rfl ⟨?_, HB.out⟩
      · have c0 := S.out.cell 0 (by omega)
        have c1 := S.out.cell 1 (by omega)
        have c2 := S.out.cell 2 (by omega)
        have c3 := S.out.cell 3 (by omega)
        have c4 := S.out.cell 4 (by omega)
        simp at c0 c1 c2 c3 c4
        simp [results, Try.results138, go_sem, c0, c1, c2, c3, c4]
      · show _ = Ending.returned (.agg #[.int .i64 ((lenF I I.length 0 : Nat) : Int), .int .i64 ((lenF I I.length 1 : Nat) : Int), .int .i64 ((lenF I I.length 2 : Nat) : Int), .int .i64 ((lenF I I.length 3 : Nat) : Int), .int .i64 ((lenF I I.length 4 : Nat) : Int)])
        rw [E0.out, E1.out, E2.out, E3.out, E4.out]

/-! ### Uniform morphisms. -/
def BI (R : Bool × Int) (w : World) (e : Ending) (w' : World) : Prop := e = .returned (.tuple #[.bool R.1, .int .i64 R.2]) ∧ Below w.heap.size w w'
set_option maxRecDepth 100000 in
set_option maxHeartbeats 2000000 in
theorem impl_IsUniform (B : Nat) (v : Value) (I : List (List UInt8)) (w : World) (h : OwnS w B v (I.map bt)) (t : Tot I) :
    Calls Try.prog 64 #[.agg #[v]] w fun e w' => e = .returned (.tuple #[.bool (uniR I).1, .int .i64 (uniR I).2]) ∧ Below w.heap.size w w' := by
  obtain ⟨p, c, hv⟩ := ownS_value h
  rw [List.length_map] at hv
  subst hv
  have hI := t.1
  have BN : Below w.heap.size w (w.alloc (.cells #[.slice p I.length c] 57)) := Below.new _ _
  have QN : Boxed (w.alloc (.cells #[.slice p I.length c] 57)) w.heap.size 57 (.slice p I.length c) := Boxed.new _ _ _
  have HBN := Lib.hid BN
  have HQN := Lib.hid QN
  have H := Lib.hid (h.below BN)
  clear BN QN h
  by_cases g : Mor I
  · have h1 := g.len1
    have h5 := g.len5
    obtain ⟨R, hR⟩ : ∃ R, uniR I = R := ⟨_, rfl⟩
    rw [hR]
    have HR := Lib.hid hR
    have c1 := fun W h => isMor_yes B (.slice p I.length c) I W h g
    have c2 := fun W h => lettersOf_any B (.slice p I.length c) I W h g
    have HF : Hid (∀ j, j < I.length → lenF I I.length j = il I j) := Lib.hid fun j hj => by unfold lenF; rw [if_pos hj]
    have HF0 : Hid (∀ j, I.length ≤ j → lenF I I.length j = 0) := Lib.hid fun j hj => by unfold lenF; rw [if_neg (by omega)]
    have HL : Hid (∀ j, lenF I I.length j ≤ 12) := Lib.hid fun j => by unfold lenF; split; exact il_le g j; omega
    generalize lenF I I.length = F at *
    have G := Lib.hid g
    have C1 := Lib.hid c1
    have C2 := Lib.hid c2
    clear c1 c2 g hR
    go_enter Try.func64, Try.ntmps64
    go_wp2_with fail
    refine (C1.out _ H.out).mono ?_
    rintro e w1 ⟨rfl, b1⟩
    have q1 := boxed_later HQN.out b1
    have kq := q1.cell
    have B1 := HBN.out.then b1
    go_wp2_with fail
    refine (C2.out _ (H.out.below b1)).mono ?_
    rintro e w2 ⟨rfl, b2⟩
    have q2 := boxed_later q1 b2
    have B2 := B1.then b2
    have kq2 := q2.cell
    clear kq
    obtain ⟨W3, hW3⟩ : ∃ W3 : World, W3 = (w2.alloc (.cells #[.int .i64 (F 0 : Int), .int .i64 (F 1 : Int), .int .i64 (F 2 : Int), .int .i64 (F 3 : Int), .int .i64 (F 4 : Int)] 91)).alloc (.cells #[.int .i64 0, .int .i64 0, .int .i64 0, .int .i64 0, .int .i64 0] 91) := ⟨_, rfl⟩
    have a1 : Arr5 W3 w2.heap.size F := by rw [hW3]; exact (Arr5.new _ _).later (Below.new _ _)
    have a2 : Arr5 W3 (w2.heap.size + 1) (fun _ => 0) := by
      have := Arr5.new (w2.alloc (.cells #[.int .i64 (F 0 : Int), .int .i64 (F 1 : Int), .int .i64 (F 2 : Int), .int .i64 (F 3 : Int), .int .i64 (F 4 : Int)] 91)) (fun _ => 0)
      rw [World.size_alloc] at this
      rw [hW3]
      exact this
    have q3 : Boxed W3 w.heap.size 57 (.slice p I.length c) := by rw [hW3]; exact (q2.alloc _).alloc _
    have B3 : Below w.heap.size w W3 := by rw [hW3]; exact (B2.alloc B2.size _).alloc (by have := B2.size; simp; omega) _
    have HW3 := Lib.hid hW3
    have A1 := Lib.hid a1
    have A2 := Lib.hid (a2.congr (g := fun j => if j < 0 then F 0 else 0) (fun j _ => by simp))
    have hbz := B2.size
    have hlt := q2.lt
    have hne1 : ¬ w.heap.size = w2.heap.size := by omega
    have hne2 : ¬ w.heap.size = w2.heap.size + 1 := by omega
    clear a1 a2 hW3 q1 q2 b1 b2 B1
    go_wp2_with fail
    rw [← HW3.out]
    go_loopw [6, 15] (fun _ t wr => ∃ i : Nat, i ≤ I.length ∧ t = .int .i64 (i : Int) ∧ Arr5 wr w2.heap.size F ∧ Arr5 wr (w2.heap.size + 1) (fun j => if j < i then F 0 else 0) ∧ Below w.heap.size w wr) (fun _ t _ => I.length - (intOf t).toNat)
    case atStart => exact ⟨0, Nat.zero_le _, rfl, A1.out, A2.out, B3⟩
    case round =>
      obtain ⟨i, hi, rfl, a1, a2, hB⟩ := hrel
      by_cases hp : i < I.length
      · have hi5 : i < 5 := by omega
        have k1 := a1.cell 0 (by omega)
        have k2 := a2.cell i hi5
        have f2 := a2.frozen i
        have hS := (a2.set i hi5 (F 0)).congr (g := fun j => if j < i + 1 then F 0 else 0) (fun j _ => by
          by_cases e : j = i
          · subst e; rw [if_pos rfl, if_pos (by omega)]
          · rw [if_neg e]
            by_cases e2 : j < i
            · rw [if_pos e2, if_pos (by omega)]
            · rw [if_neg e2, if_neg (by omega)])
        have HO := Lib.hid (a1.other (b' := w2.heap.size + 1) (j := i) (by omega) (.int .i64 (F 0 : Int)))
        have HB := Lib.hid (hB.setCell (p := ⟨w2.heap.size + 1, i, none⟩) (by show _ ≤ w2.heap.size + 1; omega) (.int .i64 (F 0 : Int)))
        have HS := Lib.hid hS
        clear hS a1 a2
        have hi0 : (0 : Int) ≤ (i : Int) := by omega
        have hi5i : (i : Int) < 5 := by omega
        generalize (if i < i then F 0 else 0) = y at k2
        generalize F 0 = y0 at *
        go_wp2_with fail
        go_roundw
        case rel => exact ⟨i + 1, by omega, by go_num, HO.out, HS.out, HB.out⟩
        case measure => simp [intOf]; omega
      · have hie : i = I.length := by omega
        have k0 := a1.cell 0 (by omega)
        have k1 := a1.cell 1 (by omega)
        have k2 := a1.cell 2 (by omega)
        have k3 := a1.cell 3 (by omega)
        have k4 := a1.cell 4 (by omega)
        have r0 := a2.cell 0 (by omega)
        have r1 := a2.cell 1 (by omega)
        have r2 := a2.cell 2 (by omega)
        have r3 := a2.cell 3 (by omega)
        have r4 := a2.cell 4 (by omega)
        have HV : Hid (∀ b : Bool, (b = true ↔ (F 0 = (if 0 < i then F 0 else 0) ∧ F 1 = (if 1 < i then F 0 else 0) ∧ F 2 = (if 2 < i then F 0 else 0) ∧ F 3 = (if 3 < i then F 0 else 0) ∧ F 4 = (if 4 < i then F 0 else 0))) → R = (b, 0)) := Lib.hid (by
          intro b hb
          rw [← HR.out]
          have key : Uni I ↔ b = true := by
            rw [hb, hie]
            have all : ∀ j, j < 5 → (F j = (if j < I.length then F 0 else 0) ↔ (j < I.length → il I j = il I 0)) := by
              intro j hj
              by_cases hjl : j < I.length
              · rw [if_pos hjl, HF.out j hjl, HF.out 0 (by omega)]
                exact ⟨fun h _ => h, fun h => h hjl⟩
              · rw [if_neg hjl, HF0.out j (by omega)]
                exact ⟨fun _ h => absurd h hjl, fun _ => rfl⟩
            rw [all 0 (by omega), all 1 (by omega), all 2 (by omega), all 3 (by omega), all 4 (by omega)]
            constructor
            · intro h; exact ⟨h 0, h 1, h 2, h 3, h 4⟩
            · rintro ⟨q0, q1, q2, q3, q4⟩ j hj
              rcases (show j = 0 ∨ j = 1 ∨ j = 2 ∨ j = 3 ∨ j = 4 by omega) with rfl | rfl | rfl | rfl | rfl
              · exact q0 hj
              · exact q1 hj
              · exact q2 hj
              · exact q3 hj
              · exact q4 hj
          by_cases u : Uni I
          · rw [uniR_yes G.out u, key.1 u]
          · rw [uniR_no G.out u]
            cases b with
            | false => rfl
            | true => exact absurd (key.2 rfl) u)
        have HB := Lib.hid hB
        clear a1 a2 hB hie
        generalize (if 0 < i then F 0 else 0) = y0 at *
        generalize (if 1 < i then F 0 else 0) = y1 at *
        generalize (if 2 < i then F 0 else 0) = y2 at *
        generalize (if 3 < i then F 0 else 0) = y3 at *
        generalize (if 4 < i then F 0 else 0) = y4 at *
        generalize F 0 = z0 at *
        generalize F 1 = z1 at *
        generalize F 2 = z2 at *
        generalize F 3 = z3 at *
        generalize F 4 = z4 at *
        have hq := eq5_run wr (z0 : Int) z1 z2 z3 z4 (y0 : Int) y1 y2 y3 y4
        have hb : (decide ((z0 : Int) = y0 ∧ (z1 : Int) = y1 ∧ (z2 : Int) = y2 ∧ (z3 : Int) = y3 ∧ (z4 : Int) = y4) = true) ↔ (z0 = y0 ∧ z1 = y1 ∧ z2 = y2 ∧ z3 = y3 ∧ z4 = y4) := by
          rw [decide_eq_true_eq]; omega
        generalize decide ((z0 : Int) = y0 ∧ (z1 : Int) = y1 ∧ (z2 : Int) = y2 ∧ (z3 : Int) = y3 ∧ (z4 : Int) = y4) = b at hq hb
        have HE := Lib.hid (HV.out b hb)
        clear hb
        go_wp2_with fail
        go_ret2
        exact ⟨by rw [HE.out]; rfl, HB.out⟩
  · rw [uniR_bad g]
    have c1 := fun W h => isMor_no B (.slice p I.length c) I W h t g
    have C1 := Lib.hid c1
    clear c1 g
    go_enter Try.func64, Try.ntmps64
    go_wp2_with fail
    refine (C1.out _ H.out).mono ?_
    rintro e w1 ⟨rfl, b1⟩
    have B1 := HBN.out.then b1
    go_wp2_with fail
    go_ret2
    exact ⟨rfl, B1⟩
end Go.Proofs.Ytddfdciohnabbab
