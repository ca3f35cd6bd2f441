/- Double words: the model. -/
import Derived.Test.YthjbdcoklgnnlabDw
import Derived.Test.YthjbdcoklgnnlabLetters
import Derived.Test.YthjbdcoklgnnlabDrawn
namespace Go.Proofs.Ythjbdcoklgnnlab
set_option linter.unusedVariables false
set_option linter.unusedSimpArgs false
open Go.RowKit

/-- A table of numbers, with room behind it. -/
abbrev TabC (W : World) (B g n c : Nat) (G : Nat → Nat) : Prop := W.ownsRow B 2 1 (.slice (some ⟨g, 0, none⟩) n c) n ((fl n G).map (Value.int .i64))
theorem TabC.at' {W : World} {B g n c : Nat} {G : Nat → Nat} (h : TabC W B g n c G) {j : Nat} (hj : j < n) : W.cell? ⟨g, j, none⟩ = some (.int .i64 (G j : Int)) := by
  rw [h.cellAt j (by omega), List.getElem?_map, List.getElem?_eq_getElem (by rw [fl_len]; exact hj), fl_get]
  rfl
theorem TabC.congr {W : World} {B g n c : Nat} {G H : Nat → Nat} (h : TabC W B g n c G) (e : ∀ j, j < n → G j = H j) : TabC W B g n c H := by
  unfold TabC
  rw [← fl_congr e]
  exact h
theorem TabC.put {W : World} {B g n c : Nat} {G H : Nat → Nat} (h : TabC W B g n c G) {k v : Nat} (e : ∀ j, j < n → H j = if j = k then v else G j) : TabC (W.setCell ⟨g, k, none⟩ (.int .i64 (v : Int))) B g n c H := by
  have := (h.stored k (.int .i64 (v : Int))).1
  rwa [fl_set e] at this
theorem TabC.cap {W : World} {B g n c : Nat} {G : Nat → Nat} (h : TabC W B g n c G) : n ≤ c := by
  rcases own_forms h with ⟨h1, _⟩ | ⟨g1, c1, h1, _, _, h3, _⟩
  · cases h1
  · cases h1; exact h3
theorem row_succ {w : World} {B n : Nat} {e : TypeId} {v : Value} {xs : List Value} (h : w.ownsRow B e 1 v (n + 1) xs) : ∃ g c, v = .slice (some ⟨g, 0, none⟩) (n + 1) c := by
  rcases own_forms h with ⟨_, h0, _⟩ | ⟨g, c, h1, _⟩
  · omega
  · exact ⟨g, c, h1⟩
/-- The places ahead are joined. -/
def mgK (R : Nat → Nat) (a b k j : Nat) : Nat := if j < k then mg R a b j else R j
/-- The letters of the places ahead. -/
def lwL (F : Nat → Nat) (i : Nat) : List UInt8 := wordL (fl i (numF F))
theorem lwL_len (F : Nat → Nat) (i : Nat) : (lwL F i).length = i := by simp [lwL, wordL, fl_len]
theorem lwL_snoc (F : Nat → Nat) (i : Nat) : lwL F i ++ [letB (numF F i : Int)] = lwL F (i + 1) := by
  unfold lwL
  rw [← fl_snoc]
  simp [wordL]
theorem lwL_get (F : Nat → Nat) (i k : Nat) (h : k < i) : (lwL F i)[k]? = some (letB (numF F k : Int)) := by
  unfold lwL wordL
  rw [List.getElem?_map, List.getElem?_eq_getElem (by rw [fl_len]; exact h), fl_get]
  rfl
theorem byte_cells (l : List UInt8) (b : UInt8) : Lib.byteCells l ++ [Value.int .u8 (b.toNat : Int)] = Lib.byteCells (l ++ [b]) := by
  rw [Lib.byteCells_append]; rfl
theorem lw_cells (F : Nat → Nat) (m : Nat) (h : numF F m ≤ 4) : Lib.byteCells (lwL F m) ++ [Value.int .u8 (97 + (numF F m : Int))] = Lib.byteCells (lwL F (m + 1)) := by
  rw [← lwL_snoc, ← byte_cells, letB_nat (by omega) (by omega)]
theorem lw_at (F : Nat → Nat) (m z : Nat) (h : z < m) (h4 : numF F z ≤ 4) : (Lib.byteCells (lwL F m))[z]? = some (Value.int .u8 (97 + (numF F z : Int))) := by
  unfold Lib.byteCells
  rw [List.getElem?_map, lwL_get F m z h]
  show some (Value.int .u8 _) = _
  rw [letB_nat (by omega) (by omega)]
theorem rows_apart {w : World} {B1 B2 g1 g2 n1 n2 c1 c2 : Nat} {e1 e2 : TypeId} {x1 x2 : List Value} (h1 : w.ownsRow B1 e1 1 (.slice (some ⟨g1, 0, none⟩) n1 c1) n1 x1) (h2 : w.ownsRow B2 e2 1 (.slice (some ⟨g2, 0, none⟩) n2 c2) n2 x2) (he : e1 ≠ e2) : g1 ≠ g2 := by
  rintro rfl
  obtain ⟨_, ⟨q, _⟩ | ⟨g, cap, cur, q, _, hh, _⟩⟩ := h1
  · cases q
  · obtain ⟨_, ⟨q', _⟩ | ⟨g', cap', cur', q', _, hh', _⟩⟩ := h2
    · cases q'
    · cases q
      cases q'
      rw [hh] at hh'
      cases hh'
      exact he rfl
theorem few_snoc {F : Nat → Nat} {i : Nat} (h : few F i) (h1 : numF F i ≤ 4) : few F (i + 1) := fun j hj => by
  by_cases e : j = i
  · subst e; exact h1
  · exact h j (by omega)

set_option maxRecDepth 100000 in
set_option maxHeartbeats 8000000 in
theorem spec_Dw_ok (a b : Nat) (w : World) (hr : 1 ≤ a ∧ a ≤ 60 ∧ 1 ≤ b ∧ b ≤ 60) (hl : ¬ 60 < dwN a b) :
    Calls Try.prog 15 #[.int .i64 (a : Int), .int .i64 (b : Int)] w fun e w' => e = .returned (.tuple #[.string (dwR a b).1, .int .i64 (dwR a b).2]) ∧ Below w.heap.size w w' := by
  obtain ⟨i0, hi, hz0, hz1, hz2⟩ := info_parts infoI64
  obtain ⟨i1, hi1, hy0, hy1, hy2⟩ := info_parts infoU8
  have hmo : Try.prog.follows .mixedOrders = true := by kernel_rfl
  have CG := Lib.hid fun w => l02Gcd_any a b w (by omega) (by omega)
  have hg0 := Nat.gcd_pos_of_pos_left b (show 0 < a by omega)
  have hg1 := Nat.gcd_le_left b (show 0 < a by omega)
  have hg2 := Nat.gcd_le_right a (show 0 < b by omega)
  have hN : (a : Int) + (b : Int) - (Nat.gcd a b : Nat) - 1 = (dwN a b : Int) := by unfold dwN; omega
  have HOK : Hid (few (dwF a b) (dwN a b) → dwR (a : Int) (b : Int) = (wordB (fl (dwN a b) (numF (dwF a b))), 0)) := Lib.hid fun h => dwR_ok hr hl h
  have HNO : Hid (¬ few (dwF a b) (dwN a b) → dwR (a : Int) (b : Int) = (⟨#[]⟩, 3)) := Lib.hid fun h => dwR_many hr h
  have HF : Hid (dwF a b = fsF (dwN a b) a b (dwN a b)) := Lib.hid rfl
  have hli : ¬ (60 : Int) < (dwN a b : Int) := by omega
  obtain ⟨r1, r2, r3, r4⟩ := hr
  have p1 : (1 : Int) ≤ (a : Int) := by omega
  have p2 : (a : Int) ≤ 60 := by omega
  have p3 : (1 : Int) ≤ (b : Int) := by omega
  have p4 : (b : Int) ≤ 60 := by omega
  generalize dwR (a : Int) (b : Int) = RS at *
  generalize dwF a b = F at *
  generalize dwN a b = n at *
  generalize Nat.gcd a b = d at *
  go_enter Try.func15, Try.ntmps15
  go_wp2_with fail
  refine (l01In_yes _ _ _ _ p1 p2).mono ?_
  rintro e w1 ⟨rfl, c1⟩
  go_wp2_with fail
  refine (l01In_yes _ _ _ _ p3 p4).mono ?_
  rintro e w2 ⟨rfl, c2⟩
  have B := c1.then c2
  clear c1 c2
  go_wp2_with fail
  refine (CG.out _).mono ?_
  rintro e w3 ⟨rfl, c3⟩
  have B := B.then c3
  clear c3
  have B0 := B.alloc B.size (.cells #[] 2)
  have hb3 := B.size
  clear CG
  go_wp2
  clear hN p1 p2 p3 p4
  go_loopg [7, 8] n (fun g s7 s8 wr => ∃ (k g0 c : Nat), k + g = n ∧ s8 = .int .i64 (k : Int) ∧ s7 = .slice (some ⟨g0, 0, none⟩) k c ∧ TabC wr w.heap.size g0 k c (fun j => j) ∧ Below w.heap.size w wr)
  case atStart => exact ⟨0, w3.heap.size, 0, by omega, rfl, rfl, own_base (World.ownsRow_lit w3 #[] 0 (Nat.le_refl _) (by decide) (by simp)) hb3, B0⟩
  case round =>
    clear B B0
    obtain ⟨k, g0, c, hk, rfl, rfl, hT, hB⟩ := hrel
    by_cases hp : k < n
    · obtain ⟨gq, rfl⟩ : ∃ q, gk = q + 1 := ⟨gk - 1, by omega⟩
      have hpi : (k : Int) < (n : Int) := by omega
      have HK := Lib.hid hk
      have hbz := hB.size
      clear hk
      go_wp2_with (at_builtin; refine wpList_append_own _ rfl _ _ 34 rfl w.heap.size 2 i0 (.int .i64 0) 1 8 Try.underlying34 hi hz0 hz1 hz2 rfl (by decide) _ _ _ rfl (World.ownsRow.alloc hT _) ⟨_, 0, none⟩ 1 1 [.int .i64 (k : Int)] rfl rfl (cell_new _ _ _) (by intro u hu; simp at hu; subst hu; rfl) (by unfold maxLen; omega) (by omega) (by simp; omega) ?_; intro v' w4 hown' hgrow _; obtain ⟨g', cap', rfl⟩ := row_succ hown')
      have hT4 : TabC w4 w.heap.size g' (k + 1) cap' (fun j => j) := by
        unfold TabC
        rw [← fl_snoc, List.map_append]
        exact hown'
      have hB4 : Below w.heap.size w w4 := (hB.alloc hbz _).grown hgrow (by simp; omega) (fun q hq => (World.ownsRow.lt hT q hq).1)
      go_roundg gq
      case measure => omega
      case rel => exact ⟨k + 1, g', cap', by have := HK.out; omega, by go_num, rfl, hT4, hB4⟩
    · obtain rfl : k = n := by omega
      have hpi : ¬ (k : Int) < (k : Int) := by omega
      have hcap := hT.cap
      clear hk hp
      go_wp2
      go_loopg [9] k (fun g s9 wr' => ∃ i : Nat, i + g = k ∧ s9 = .int .i64 (i : Int) ∧ TabC wr' w.heap.size g0 k c (rtR k a b i) ∧ Below w.heap.size w wr')
      case atStart => exact ⟨0, by omega, rfl, hT, hB⟩
      case round =>
        clear hT hB
        obtain ⟨i, hi2, rfl, hT, hB⟩ := hrel
        by_cases hpi2 : i < k
        · obtain ⟨gq, rfl⟩ : ∃ q, gk = q + 1 := ⟨gk - 1, by omega⟩
          have hii : (i : Int) < (k : Int) := by omega
          have HI := Lib.hid hi2
          have hbz := hB.size
          clear hi2
          have hGl := (World.ownsRow.lt hT g0 rfl).2
          have hGb := (World.ownsRow.lt hT g0 rfl).1
          have HL0 : Hid (∀ u, u < 2 → (wr.alloc (.cells #[.int .i64 (a : Int), .int .i64 (b : Int)] 2)).cell? ⟨wr.heap.size, u, none⟩ = some (.int .i64 (farT a b u : Int))) := Lib.hid fun u hu => by
            rw [lit2 _ _ _ _ u hu]
            unfold farT
            by_cases e : u = 0
            · rw [if_pos e, if_pos e]
            · rw [if_neg e, if_neg e]
          have hT0 : TabC (wr.alloc (.cells #[.int .i64 (a : Int), .int .i64 (b : Int)] 2)) w.heap.size g0 k c (rtT k a b i 0) := World.ownsRow.alloc hT _
          have hB0 := hB.alloc hbz (.cells #[.int .i64 (a : Int), .int .i64 (b : Int)] 2)
          clear hT hB
          go_wp2
          go_loopg [57] 2 (fun g3 s57 wr' => ∃ t : Nat, t + g3 = 2 ∧ s57 = .int .i64 (t : Int) ∧ TabC wr' w.heap.size g0 k c (rtT k a b i t) ∧ Hid (∀ u, u < 2 → wr'.cell? ⟨wr.heap.size, u, none⟩ = some (.int .i64 (farT a b u : Int))) ∧ wr.heap.size < wr'.heap.size ∧ Below w.heap.size w wr')
          case atStart => exact ⟨0, rfl, rfl, hT0, HL0, by simp, hB0⟩
          case round =>
            clear hT0 HL0 hB0
            obtain ⟨t, ht, rfl, hT, HL, hLl, hB⟩ := hrel
            by_cases ht2 : t < 2
            · obtain ⟨g3, rfl⟩ : ∃ g, gk = g + 1 := ⟨gk - 1, by omega⟩
              have hti : (t : Int) < 2 := by omega
              have cl := HL.out t ht2
              have HST : Hid (rtT k a b i (t + 1) = mgS k (farT a b t) i (rtT k a b i t)) := Lib.hid (rtT_step ht2)
              have hA := Alk.mid (p := a) (q := b) hpi2 t
              have HLE := Lib.hid hA.rlt
              have hf1 : 1 ≤ farT a b t := by unfold farT; split <;> assumption
              have hf2 : farT a b t ≤ 60 := by unfold farT; split <;> assumption
              have HT2 := Lib.hid ht
              clear hA ht
              generalize farT a b t = far at *
              generalize rtT k a b i t = R at *
              have wq1 : IntKind.i64.wrap ((i : Int) + (far : Int)) = (i : Int) + (far : Int) := IntWalk.i64_in _ (by omega)
              by_cases hin : i + far < k
              · have hini : ¬ (k : Int) ≤ (i : Int) + (far : Int) := by omega
                have hind : decide ((k : Int) ≤ (i : Int) + (far : Int)) = false := decide_eq_false hini
                have hinj : (i : Int) + (far : Int) < (k : Int) := by omega
                have ci := hT.at' hpi2
                have cj := hT.at' hin
                have e3 : (0 : Int) ≤ (i : Int) + (far : Int) := by omega
                have e4 : ((i : Int) + (far : Int)).toNat = i + far := by omega
                have hic : i < c := by omega
                have hjc : i + far < c := by omega
                by_cases heq : R i = R (i + far)
                · have HV : Hid (rtT k a b i (t + 1) = R) := Lib.hid (by rw [HST.out, mgS_yes hin]; exact mg_same heq)
                  have q1 : ((R i : Int) == (R (i + far) : Int)) = true := by rw [beq_iff_eq]; omega
                  clear heq
                  generalize R (i + far) = ry at *
                  generalize R i = rx at *
                  go_wp2
                  go_quiet (fail)
                  go_wp2
                  go_roundg g3
                  case measure => omega
                  case rel => exact ⟨t + 1, by have := HT2.out; omega, by go_num, by rw [HV.out]; exact own_below hT ((Below.refl _ _).drewN _), HL, hLl, hB.drewN _⟩
                · have HV : Hid (rtT k a b i (t + 1) = mg R (R i) (R (i + far))) := Lib.hid (by rw [HST.out, mgS_yes hin])
                  have q1 : ((R i : Int) == (R (i + far) : Int)) = false := by rw [beq_eq_false_iff_ne]; omega
                  clear heq
                  generalize R (i + far) = ry at *
                  generalize R i = rx at *
                  have hTD : ∀ q1 q2, TabC ((wr.drewN q1).drewN q2) w.heap.size g0 k c (mgK R rx ry 0) := fun q1 q2 => TabC.congr (own_below hT (((Below.refl _ _).drewN _).drewN _)) (fun j hj => by unfold mgK; rw [if_neg (by omega)])
                  have HTD := Lib.hid hTD
                  clear hTD
                  go_wp2
                  go_quiet (fail)
                  go_wp2
                  go_quiet (fail)
                  go_wp2
                  go_loopg [14] k (fun g4 s14 wr' => ∃ z : Nat, z + g4 = k ∧ s14 = .int .i64 (z : Int) ∧ TabC wr' w.heap.size g0 k c (mgK R rx ry z) ∧ wr.grownBy wr' (some g0) ∧ Below w.heap.size w wr')
                  case atStart => exact ⟨0, by omega, rfl, HTD.out _ _, ⟨rfl, rfl, rfl, Nat.le_refl _, fun _ _ _ => rfl⟩, (hB.drewN _).drewN _⟩
                  case round =>
                    have HL9 := HL
                    have hLl9 := hLl
                    clear hT hB HL hLl cl ci cj HTD q1
                    obtain ⟨z, hz, rfl, hT, hG, hB⟩ := hrel
                    by_cases hzp : z < k
                    · obtain ⟨g4, rfl⟩ : ∃ g, gk = g + 1 := ⟨gk - 1, by omega⟩
                      have hzi : (z : Int) < (k : Int) := by omega
                      have cz := hT.at' hzp
                      rw [show mgK R rx ry z z = R z by unfold mgK; rw [if_neg (by omega)]] at cz
                      have fz : wr.frozen? ⟨g0, z, none⟩ = false := hT.frozenAt z
                      have hzc : z < c := by omega
                      have HZ := Lib.hid hz
                      clear hz
                      by_cases hry : R z = ry
                      · have hT2 : TabC (wr.setCell ⟨g0, z, none⟩ (.int .i64 (rx : Int))) w.heap.size g0 k c (mgK R rx ry (z + 1)) := hT.put fun j hj => by
                          unfold mgK
                          by_cases e : j = z
                          · subst e; rw [if_pos (by omega), if_pos rfl]; exact mg_in (.inr hry)
                          · rw [if_neg e]
                            by_cases e2 : j < z
                            · rw [if_pos e2, if_pos (by omega)]
                            · rw [if_neg e2, if_neg (by omega)]
                        have HT5 := Lib.hid hT2
                        have HG5 := Lib.hid (grown_set hG z (.int .i64 (rx : Int)))
                        have HB5 := Lib.hid (hB.setCell (p := ⟨g0, z, none⟩) hGb (.int .i64 (rx : Int)))
                        rw [hry] at cz
                        have q2 : ((ry : Int) == (ry : Int)) = true := by rw [beq_iff_eq]
                        clear hT2 hT hG hB hry
                        go_wp2
                        go_roundg g4
                        case measure => omega
                        case rel => exact ⟨z + 1, by have := HZ.out; omega, by go_num, HT5.out, HG5.out, HB5.out⟩
                      · have HT5 : Hid (TabC wr w.heap.size g0 k c (mgK R rx ry (z + 1))) := Lib.hid (hT.congr fun j hj => by
                          unfold mgK
                          by_cases e : j = z
                          · subst e
                            rw [if_neg (by omega), if_pos (by omega)]
                            unfold mg
                            rw [if_neg hry]
                          · by_cases e2 : j < z
                            · rw [if_pos e2, if_pos (by omega)]
                            · rw [if_neg e2, if_neg (by omega)])
                        have q1 : ¬ (R z : Int) = (ry : Int) := by omega
                        have q2 : ((R z : Int) == (ry : Int)) = false := by rw [beq_eq_false_iff_ne]; exact q1
                        clear hT hry
                        generalize R z = rz at *
                        go_wp2
                        go_roundg g4
                        case measure => omega
                        case rel => exact ⟨z + 1, by have := HZ.out; omega, by go_num, HT5.out, hG, hB⟩
                    · have HT5 : Hid (TabC wr w.heap.size g0 k c (rtT k a b i (t + 1))) := Lib.hid (by rw [HV.out]; exact hT.congr fun j hj => by unfold mgK; rw [if_pos (by omega)])
                      have hzi : ¬ (z : Int) < (k : Int) := by omega
                      have hgs := hG.size
                      clear hT
                      go_wp2
                      go_roundg g3
                      case measure => omega
                      case rel => exact ⟨t + 1, by have := HT2.out; omega, by go_num, HT5.out, Lib.hid (fun u hu => (cell_grown hG (fun e => by have := Option.some.inj e; omega) hLl9 u).trans (HL9.out u hu)), by omega, hB⟩
              · have hini : (k : Int) ≤ (i : Int) + (far : Int) := by omega
                have hind : decide ((k : Int) ≤ (i : Int) + (far : Int)) = true := decide_eq_true hini
                have HV : Hid (rtT k a b i (t + 1) = R) := Lib.hid (by rw [HST.out, mgS_no hin])
                go_wp2
                go_quiet (fail)
                go_wp2
                go_roundg g3
                case measure => omega
                case rel => exact ⟨t + 1, by have := HT2.out; omega, by go_num, by rw [HV.out]; exact own_below hT ((Below.refl _ _).drewN _), HL, hLl, hB.drewN _⟩
            · have HT3 : Hid (TabC wr w.heap.size g0 k c (rtR k a b (i + 1))) := Lib.hid (by rw [show t = 2 by omega] at hT; exact hT)
              have hti : ¬ (t : Int) < 2 := by omega
              clear hT
              go_wp2
              go_roundg gq
              case measure => omega
              case rel => exact ⟨i + 1, by have := HI.out; omega, by go_num, HT3.out, hB⟩
        · have hik : i = k := by omega
          rw [hik] at hT
          have hii : ¬ (i : Int) < (k : Int) := by omega
          have hA0 := Alk.all k a b k (Nat.le_refl _)
          rw [← HF.out] at hA0
          have HA := Lib.hid hA0
          have hGl := (World.ownsRow.lt hT g0 rfl).2
          have hbz := hB.size
          clear hA0 hik hpi2 hi2 hpi
          generalize rtR k a b k = R at *
          have hT0 : TabC (wr.alloc (.cells #[] 5)) w.heap.size g0 k c R := World.ownsRow.alloc hT _
          have hO0 : (wr.alloc (.cells #[] 5)).ownsRow w.heap.size 5 1 (.slice (some ⟨wr.heap.size, 0, none⟩) 0 0) 0 (Lib.byteCells (lwL F 0)) := own_base (World.ownsRow_lit wr #[] 0 (Nat.le_refl _) (by decide) (by simp)) hbz
          have hB0 := hB.alloc hbz (.cells #[] 5)
          clear hT hB
          go_wp2
          go_loopg [15, 16, 17] k (fun gg s15 s16 s17 wr' => ∃ (m o co : Nat), m + gg = k ∧ s17 = .int .i64 (m : Int) ∧ s16 = .int .i64 (usedF F m : Int) ∧ s15 = .slice (some ⟨o, 0, none⟩) m co ∧ wr'.ownsRow w.heap.size 5 1 (.slice (some ⟨o, 0, none⟩) m co) m (Lib.byteCells (lwL F m)) ∧ Hid (few F m) ∧ TabC wr' w.heap.size g0 k c R ∧ Below w.heap.size w wr')
          case atStart => exact ⟨0, wr.heap.size, 0, by omega, rfl, rfl, rfl, hO0, Lib.hid (fun j hj => by omega), hT0, hB0⟩
          case round =>
            clear hT0 hO0 hB0 hGl hbz
            obtain ⟨m, o, co, hm, rfl, rfl, rfl, hO, hFew, hT, hB⟩ := hrel
            by_cases hp : m < k
            · obtain ⟨gq, rfl⟩ : ∃ q, gk = q + 1 := ⟨gk - 1, by omega⟩
              have hmi : (m : Int) < (k : Int) := by omega
              have hfl := HA.out.le m hp
              have hu5 := few_used hFew.out m (Nat.le_refl _)
              have hbz := hB.size
              have hmc : m ≤ co := by
                rcases own_forms hO with ⟨h1, _⟩ | ⟨g1, c1, h1, _, _, h3, _⟩
                · cases h1
                · cases h1; exact h3
              have HNF : Hid (∀ z, z < F m → ¬ R z = R m) := Lib.hid fun z hz => HA.out.first hp hz
              have HHF : Hid (R (F m) = R m) := Lib.hid (HA.out.hit hp)
              have HNU : Hid (F m = m → numF F m = usedF F m) := Lib.hid fun e => by unfold numF; rw [e]
              have HNN : Hid (numF F (F m) = numF F m) := Lib.hid (by unfold numF; rw [HA.out.fix m hp])
              have HUY : Hid (F m = m → usedF F (m + 1) = usedF F m + 1) := Lib.hid fun e => usedF_yes e
              have HUN : Hid (¬ F m = m → usedF F (m + 1) = usedF F m) := Lib.hid fun e => usedF_no e
              have HLC : Hid (numF F m ≤ 4 → Lib.byteCells (lwL F m) ++ [Value.int .u8 (97 + (numF F m : Int))] = Lib.byteCells (lwL F (m + 1))) := Lib.hid fun h => lw_cells F m h
              have HFS : Hid (numF F m ≤ 4 → few F (m + 1)) := Lib.hid fun h => few_snoc hFew.out h
              have HN4 : Hid (∀ z, z < m → numF F z ≤ 4) := Lib.hid fun z hz => hFew.out z hz
              have HM := Lib.hid hm
              clear hm
              have HT9 := Lib.hid hT
              have HO9 := Lib.hid hO
              have hgo : g0 ≠ o := rows_apart hT hO (by decide)
              clear hT hO
              go_wp2
              go_loopg [18, 19] (m + 1) (fun g5 s18 s19 wr' => ∃ z : Nat, z + g5 = m + 1 ∧ s19 = .int .i64 (z : Int) ∧ ((z ≤ F m ∧ s18 = .int .u8 0) ∨ (F m < m ∧ z = F m + 1 ∧ s18 = .int .u8 (97 + (numF F m : Int)))) ∧ Drawn wr wr')
              case atStart => exact ⟨0, by omega, rfl, .inl ⟨Nat.zero_le _, rfl⟩, Drawn.refl _⟩
              case round =>
                obtain ⟨z, hz, rfl, hcase, nd, rfl⟩ := hrel
                have hTz : TabC (wr.drewN nd) w.heap.size g0 k c R := own_below HT9.out ((Below.refl _ _).drewN nd)
                have hOz := own_below HO9.out ((Below.refl _ _).drewN nd)
                have hBz := hB.drewN nd
                clear hB
                rcases hcase with ⟨hzF, rfl⟩ | ⟨hFm, rfl, rfl⟩
                · by_cases hzm : z < m
                  · obtain ⟨g5, rfl⟩ : ∃ q, gk = q + 1 := ⟨gk - 1, by omega⟩
                    have hzi : (z : Int) < (m : Int) := by omega
                    have hzk : z < k := by omega
                    have hzki : (z : Int) < (k : Int) := by omega
                    have hzc : z < c := by omega
                    have hmcc : m < c := by omega
                    have cz : wr.cell? ⟨g0, z, none⟩ = some (.int .i64 (R z : Int)) := HT9.out.at' hzk
                    have cm : wr.cell? ⟨g0, m, none⟩ = some (.int .i64 (R m : Int)) := HT9.out.at' hp
                    have HZ := Lib.hid hz
                    clear hz
                    by_cases hzf : z = F m
                    · have hv4 := HN4.out z hzm
                      have co1 : wr.cell? ⟨o, z, none⟩ = some (.int .u8 (97 + (numF F m : Int))) := by
                        rw [HO9.out.cellAt z (by omega), lw_at F m z hzm hv4, hzf, HNN.out]
                      rw [show R z = R m by rw [hzf]; exact HHF.out] at cz
                      have q1 : ((R m : Int) == (R m : Int)) = true := by rw [beq_iff_eq]
                      have hzo : z < co := by omega
                      have HZF := Lib.hid hzf
                      clear hzf hOz hTz hv4
                      generalize R m = rm at *
                      generalize numF F m = v at *
                      go_wp2
                      go_quiet (fail)
                      go_wp2
                      go_roundg g5
                      case measure => omega
                      case rel => exact ⟨z + 1, by have := HZ.out; omega, by go_num, .inr ⟨by have := HZF.out; omega, by have := HZF.out; omega, rfl⟩, ⟨_, rfl⟩⟩
                    · have q1 : ((R z : Int) == (R m : Int)) = false := by rw [beq_eq_false_iff_ne]; have := HNF.out z (by omega); omega
                      have HZF := Lib.hid hzf
                      clear hzf hOz hTz
                      generalize R m = rm at *
                      generalize R z = rz at *
                      go_wp2
                      go_quiet (fail)
                      go_wp2
                      go_roundg g5
                      case measure => omega
                      case rel => exact ⟨z + 1, by have := HZ.out; omega, by go_num, .inl ⟨by have := HZF.out; omega, rfl⟩, ⟨_, rfl⟩⟩
                  · have hfm : F m = m := by omega
                    have hzi : ¬ (z : Int) < (m : Int) := by omega
                    have hnu := HNU.out hfm
                    by_cases h5 : usedF F m = 5
                    · have hRS : RS = (⟨#[]⟩, 3) := HNO.out fun h => by have := h m hp; omega
                      have h5i : (usedF F m : Int) = 5 := by omega
                      have HRS := Lib.hid hRS
                      clear hRS hTz hOz h5 hnu hfm
                      generalize usedF F m = u at *
                      go_wp2
                      go_ret2
                      rw [HRS.out]
                      exact ⟨rfl, hBz⟩
                    · have h4 : numF F m ≤ 4 := by omega
                      have h5i : ¬ (usedF F m : Int) = 5 := by omega
                      have hcl := HLC.out h4
                      have hfs := Lib.hid (HFS.out h4)
                      have huy := HUY.out hfm
                      rw [hnu] at hcl
                      have hu4 : usedF F m ≤ 4 := by omega
                      have wu : IntKind.u8.wrap (97 + (usedF F m : Int)) = 97 + (usedF F m : Int) := IntWalk.u8_in _ (by omega)
                      have wi : IntKind.i64.wrap (97 + (usedF F m : Int)) = 97 + (usedF F m : Int) := IntWalk.i64_in _ (by omega)
                      have HCL := Lib.hid hcl
                      have HUE := Lib.hid huy
                      have hbz2 := hBz.size
                      clear hcl huy h5 hnu h4 hfm
                      generalize usedF F m = u at *
                      go_wp2_with (at_builtin; refine wpList_append_own _ rfl _ _ 31 rfl w.heap.size 5 i1 (.int .u8 0) 1 1 Try.underlying31 hi1 hy0 hy1 hy2 rfl (by decide) _ _ _ rfl (World.ownsRow.alloc hOz _) ⟨_, 0, none⟩ 1 1 [.int .u8 (97 + (u : Int))] rfl rfl (cell_new _ _ _) (by intro u hu; simp at hu; subst hu; rfl) (by unfold maxLen; omega) (by omega) (by simp; omega) ?_; intro v' w4 hown' hgrow _; obtain ⟨g', cap', rfl⟩ := row_succ hown')
                      have hO4 : w4.ownsRow w.heap.size 5 1 (.slice (some ⟨g', 0, none⟩) (m + 1) cap') (m + 1) (Lib.byteCells (lwL F (m + 1))) := by rw [← HCL.out]; exact hown'
                      have hgrow2 : World.grownBy _ w4 (some o) := hgrow
                      have hT4 : TabC w4 w.heap.size g0 k c R := World.ownsRow.kept (World.ownsRow.alloc hTz _) hgrow2 (.inr (fun e => hgo (Option.some.inj e)))
                      have hB4 : Below w.heap.size w w4 := (hBz.alloc hbz2 _).grown hgrow (by simp; omega) (fun q hq => (World.ownsRow.lt hOz q hq).1)
                      go_roundg gq
                      case measure => omega
                      case rel => exact ⟨m + 1, g', cap', by have := HM.out; omega, by go_num, by rw [HUE.out]; go_num, rfl, hO4, hfs, hT4, hB4⟩
                · have h4 : numF F m ≤ 4 := by have := HN4.out (F m) hFm; rw [HNN.out] at this; exact this
                  have hnf : ¬ F m = m := by omega
                  have hcl := HLC.out h4
                  have hfs := Lib.hid (HFS.out h4)
                  have huy := HUN.out hnf
                  have HCL := Lib.hid hcl
                  have HUE := Lib.hid huy
                  have hbz2 := hBz.size
                  have q1 : ¬ (97 + (numF F m : Int)) = 0 := by omega
                  have q2 : ((97 + (numF F m : Int)) == 0) = false := by rw [beq_eq_false_iff_ne]; exact q1
                  clear hcl huy hnf
                  generalize numF F m = v at *
                  by_cases hzm : F m + 1 < m
                  · have hzi : (F m : Int) + 1 < (m : Int) := by omega
                    go_wp2_with (at_builtin; refine wpList_append_own _ rfl _ _ 31 rfl w.heap.size 5 i1 (.int .u8 0) 1 1 Try.underlying31 hi1 hy0 hy1 hy2 rfl (by decide) _ _ _ rfl (World.ownsRow.alloc hOz _) ⟨_, 0, none⟩ 1 1 [.int .u8 (97 + (v : Int))] rfl rfl (cell_new _ _ _) (by intro u hu; simp at hu; subst hu; rfl) (by unfold maxLen; omega) (by omega) (by simp; omega) ?_; intro v' w4 hown' hgrow _; obtain ⟨g', cap', rfl⟩ := row_succ hown')
                    have hO4 : w4.ownsRow w.heap.size 5 1 (.slice (some ⟨g', 0, none⟩) (m + 1) cap') (m + 1) (Lib.byteCells (lwL F (m + 1))) := by rw [← HCL.out]; exact hown'
                    have hgrow2 : World.grownBy _ w4 (some o) := hgrow
                    have hT4 : TabC w4 w.heap.size g0 k c R := World.ownsRow.kept (World.ownsRow.alloc hTz _) hgrow2 (.inr (fun e => hgo (Option.some.inj e)))
                    have hB4 : Below w.heap.size w w4 := (hBz.alloc hbz2 _).grown hgrow (by simp; omega) (fun q hq => (World.ownsRow.lt hOz q hq).1)
                    go_roundg gq
                    case measure => omega
                    case rel => exact ⟨m + 1, g', cap', by have := HM.out; omega, by go_num, by rw [HUE.out], rfl, hO4, hfs, hT4, hB4⟩
                  · have hzi : ¬ (F m : Int) + 1 < (m : Int) := by omega
                    go_wp2_with (at_builtin; refine wpList_append_own _ rfl _ _ 31 rfl w.heap.size 5 i1 (.int .u8 0) 1 1 Try.underlying31 hi1 hy0 hy1 hy2 rfl (by decide) _ _ _ rfl (World.ownsRow.alloc hOz _) ⟨_, 0, none⟩ 1 1 [.int .u8 (97 + (v : Int))] rfl rfl (cell_new _ _ _) (by intro u hu; simp at hu; subst hu; rfl) (by unfold maxLen; omega) (by omega) (by simp; omega) ?_; intro v' w4 hown' hgrow _; obtain ⟨g', cap', rfl⟩ := row_succ hown')
                    have hO4 : w4.ownsRow w.heap.size 5 1 (.slice (some ⟨g', 0, none⟩) (m + 1) cap') (m + 1) (Lib.byteCells (lwL F (m + 1))) := by rw [← HCL.out]; exact hown'
                    have hgrow2 : World.grownBy _ w4 (some o) := hgrow
                    have hT4 : TabC w4 w.heap.size g0 k c R := World.ownsRow.kept (World.ownsRow.alloc hTz _) hgrow2 (.inr (fun e => hgo (Option.some.inj e)))
                    have hB4 : Below w.heap.size w w4 := (hBz.alloc hbz2 _).grown hgrow (by simp; omega) (fun q hq => (World.ownsRow.lt hOz q hq).1)
                    go_roundg gq
                    case measure => omega
                    case rel => exact ⟨m + 1, g', cap', by have := HM.out; omega, by go_num, by rw [HUE.out], rfl, hO4, hfs, hT4, hB4⟩
            · obtain rfl : m = k := by omega
              have hmi : ¬ (m : Int) < (m : Int) := by omega
              have htx := text_of_own (l := lwL F m) (by rw [lwL_len]; exact hO)
              have HRS : Hid (RS = (⟨(lwL F m).toArray⟩, 0)) := Lib.hid (HOK.out hFew.out)
              clear hO hT hp hm
              generalize (⟨(lwL F m).toArray⟩ : ByteArray) = st at *
              go_wp2
              go_ret2
              rw [HRS.out]
              exact ⟨rfl, hB⟩

set_option maxRecDepth 100000 in
set_option maxHeartbeats 2000000 in
theorem spec_DoubleWord (p q : Int) (w : World) (wp : (Lit.int .i64 p).wf = true) (wq : (Lit.int .i64 q).wf = true) :
    Calls Try.prog 15 #[.int .i64 p, .int .i64 q] w fun e w' => e = .returned (.tuple #[.string (dwR p q).1, .int .i64 (dwR p q).2]) ∧ Below w.heap.size w w' := by
  by_cases hp : 1 ≤ p ∧ p ≤ 60
  · by_cases hq : 1 ≤ q ∧ q ≤ 60
    · obtain ⟨a, rfl⟩ := Int.eq_ofNat_of_zero_le (show 0 ≤ p by omega)
      obtain ⟨b, rfl⟩ := Int.eq_ofNat_of_zero_le (show 0 ≤ q by omega)
      obtain ⟨p1, p2⟩ := hp
      obtain ⟨q1, q2⟩ := hq
      by_cases hl : 60 < dwN a b
      · rw [dwR_long (by omega) hl]
        have CG := Lib.hid fun w => l02Gcd_any a b w (by omega) (by omega)
        have hg0 := Nat.gcd_pos_of_pos_left b (show 0 < a by omega)
        have hg1 := Nat.gcd_le_left b (show 0 < a by omega)
        have hg2 := Nat.gcd_le_right a (show 0 < b by omega)
        have hN : (a : Int) + (b : Int) - (Nat.gcd a b : Nat) - 1 = (dwN a b : Int) := by unfold dwN; omega
        have hli : (60 : Int) < (dwN a b : Int) := by omega
        generalize dwN a b = n at *
        generalize Nat.gcd a b = d at *
        go_enter Try.func15, Try.ntmps15
        go_wp2_with fail
        refine (l01In_yes _ _ _ _ p1 p2).mono ?_
        rintro e w1 ⟨rfl, b1⟩
        go_wp2_with fail
        refine (l01In_yes _ _ _ _ q1 q2).mono ?_
        rintro e w2 ⟨rfl, b2⟩
        go_wp2_with fail
        refine (CG.out _).mono ?_
        rintro e w3 ⟨rfl, b3⟩
        go_wp2_with fail
        go_ret2
        exact ⟨rfl, (b1.then b2).then b3⟩
      · exact spec_Dw_ok a b w (by omega) hl
    · rw [dwR_bad (by omega)]
      have HQ := Lib.hid hq
      clear hq
      go_enter Try.func15, Try.ntmps15
      go_wp2_with fail
      refine (l01In_yes _ _ _ _ hp.1 hp.2).mono ?_
      rintro e w1 ⟨rfl, b1⟩
      go_wp2_with fail
      refine (l01In_no _ _ _ _ HQ.out).mono ?_
      rintro e w2 ⟨rfl, b2⟩
      go_wp2_with fail
      go_ret2
      exact ⟨rfl, b1.then b2⟩
  · rw [dwR_bad (by omega)]
    have HP := Lib.hid hp
    clear hp
    go_enter Try.func15, Try.ntmps15
    go_wp2_with fail
    refine (l01In_no _ _ _ _ HP.out).mono ?_
    rintro e w1 ⟨rfl, b1⟩
    go_wp2_with fail
    go_ret2
    exact ⟨rfl, b1⟩

end Go.Proofs.Ythjbdcoklgnnlab
