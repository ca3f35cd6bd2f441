/- IsPrimitive: the model. -/
import Derived.Test.YtddfdciohnabbabPrimPlain
import Derived.Test.YtddfdciohnabbabMatS
import Derived.Test.YtddfdciohnabbabToS
import Derived.Test.YtddfdciohnabbabMorC
import Derived.Deep.LoopGhost
import Derived.BigQuiet
import Derived.IntWalk
namespace Go.Proofs.Ytddfdciohnabbab
set_option linter.unusedVariables false
set_option linter.unusedSimpArgs false
open Go.RowKit

/-- The letters that stand in the iterate of k of the letter i. -/
def sB (I : List (List UInt8)) (k i v : Nat) : Bool := decide (0 < ct (hk I k [letr i]) v)
def setL (I : List (List UInt8)) (k n : Nat) : List Int := (List.range n).map fun i => (bn (sB I k i) I.length : Int)
theorem setL_len (I : List (List UInt8)) (k n : Nat) : (setL I k n).length = n := by simp [setL]
theorem setL_snoc (I : List (List UInt8)) (k n : Nat) : setL I k (n + 1) = setL I k n ++ [(bn (sB I k n) I.length : Int)] := by simp [setL, List.range_succ]
theorem setL_get (I : List (List UInt8)) (k n i : Nat) (h : i < (setL I k n).length) : (setL I k n)[i]'h = (bn (sB I k i) I.length : Int) := by simp [setL]
theorem sB_zero {I : List (List UInt8)} (g : Mor I) {i : Nat} (hi : i < I.length) : bn (sB I 0 i) I.length = 2 ^ i := by
  have h5 := g.len5
  rw [← bn_one hi]
  apply bn_ext
  intro j hj
  unfold sB
  rw [hk_zero, ct_one (by omega) (by omega)]
  by_cases e : i = j
  · subst e; simp
  · rw [if_neg e]; simp; omega
theorem pow_small {i : Nat} (h : i ≤ 5) : (2 : Nat) ^ i ≤ 32 := by
  rcases (show i = 0 ∨ i = 1 ∨ i = 2 ∨ i = 3 ∨ i = 4 ∨ i = 5 by omega) with rfl | rfl | rfl | rfl | rfl | rfl <;> decide
theorem bn_small (f : Nat → Bool) {n : Nat} (h : n ≤ 5) : bn f n < 32 := by
  have h1 := bn_lt f n
  have h2 := pow_small h
  omega
theorem or_small (a b : Nat) (ha : a < 32) (hb : b < 32) : bits .or .i64 (a : Int) (b : Int) = ((a ||| b : Nat) : Int) := by
  have h : bits .or .i64 (a : Int) (b : Int) = IntKind.i64.wrap ((BitVec.ofInt 64 (a : Int) ||| BitVec.ofInt 64 (b : Int)).toNat : Int) := rfl
  have h3 : a ||| b < 2 ^ 5 := Nat.or_lt_two_pow (by omega) (by omega)
  rw [h, BitVec.toNat_or, BitVec.ofInt_natCast, BitVec.ofInt_natCast, BitVec.toNat_ofNat, BitVec.toNat_ofNat, Nat.mod_eq_of_lt (by omega), Nat.mod_eq_of_lt (by omega)]
  exact IntWalk.i64_in _ (by omega)
theorem and_small (a : Nat) (ha : a < 32) : bits .and .i64 (a : Int) 1 = ((a % 2 : Nat) : Int) := by
  have h : bits .and .i64 (a : Int) 1 = IntKind.i64.wrap ((BitVec.ofInt 64 (a : Int) &&& BitVec.ofInt 64 ((1 : Nat) : Int)).toNat : Int) := rfl
  rw [h, BitVec.toNat_and, BitVec.ofInt_natCast, BitVec.ofInt_natCast, BitVec.toNat_ofNat, BitVec.toNat_ofNat, Nat.mod_eq_of_lt (by omega), Nat.mod_eq_of_lt (by omega), Nat.and_one_is_mod]
  exact IntWalk.i64_in _ (by omega)
theorem shl_one (k : Nat) (hk : k ≤ 5) (W : World) : (binOp .shl 2 (.int .i64 1) (.int .u64 (k : Int))).run Try.prog W = .ok (.int .i64 ((2 ^ k : Nat) : Int)) W := by
  rw [binOp_shl, shift_shl _ _ _ _ (by omega) (by simp [IntKind.bits]; omega)]
  have h2k := pow_small hk
  have e : (1 : Int) * 2 ^ ((k : Int)).toNat = ((2 ^ k : Nat) : Int) := by simp
  rw [e]
  generalize 2 ^ k = z at *
  rw [IntWalk.i64_in _ (by omega)]
  rfl
theorem wrap_two (k : Nat) (hk : k ≤ 5) : wrap64 ((2 : Int) ^ k) = ((2 ^ k : Nat) : Int) := by
  have h2k := pow_small hk
  have e : (2 : Int) ^ k = ((2 ^ k : Nat) : Int) := by simp
  rw [e]
  generalize 2 ^ k = z at *
  unfold wrap64
  omega
theorem shr_at (a k : Nat) (hk : k ≤ 5) (W : World) : (binOp .shr 2 (.int .i64 (a : Int)) (.int .u64 (k : Int))).run Try.prog W = .ok (.int .i64 ((a / 2 ^ k : Nat) : Int)) W := by
  rw [binOp_shr, shift_shr _ _ _ _ (by omega) (by simp [IntKind.bits]; omega)]
  have e : (a : Int) / 2 ^ ((k : Int)).toNat = ((a / 2 ^ k : Nat) : Int) := by simp
  rw [e]
  rfl

/-- All of the first i letters have come to all. -/
def allB (I : List (List UInt8)) (k i : Nat) : Bool := (List.range i).all fun j => bn (sB I k j) I.length == 2 ^ I.length - 1
theorem allB_zero (I : List (List UInt8)) (k : Nat) : allB I k 0 = true := rfl
theorem allB_succ (I : List (List UInt8)) (k i : Nat) : allB I k (i + 1) = (allB I k i && (bn (sB I k i) I.length == 2 ^ I.length - 1)) := by simp [allB, List.range_succ]
theorem allB_iff {I : List (List UInt8)} (g : Mor I) (k : Nat) : allB I k I.length = true ↔ Full I.length (edge I) k := by
  have h5 := g.len5
  unfold allB
  rw [List.all_eq_true]
  constructor
  · intro h u v hu hv
    have := h u (List.mem_range.2 hu)
    rw [beq_iff_eq, bn_full] at this
    have := this v hv
    unfold sB at this
    rw [decide_eq_true_eq] at this
    exact (hk_pos g hu k v (by omega)).1 this
  · intro h i hi
    rw [List.mem_range] at hi
    rw [beq_iff_eq, bn_full]
    intro v hv
    unfold sB
    rw [decide_eq_true_eq]
    exact (hk_pos g hi k v (by omega)).2 (h i v hi hv)
theorem sB_step {I : List (List UInt8)} (g : Mor I) {k i v : Nat} (hi : i < I.length) (hv : v < I.length) : sB I (k + 1) i v = true ↔ ∃ j, j < I.length ∧ sB I k i j = true ∧ edge I j v := by
  have h5 := g.len5
  unfold sB
  rw [decide_eq_true_eq, hk_pos g hi (k + 1) v (by omega)]
  constructor
  · rintro ⟨j, hj, h1, h2⟩
    exact ⟨j, hj, by rw [decide_eq_true_eq]; exact (hk_pos g hi k j (by omega)).2 h1, h2⟩
  · rintro ⟨j, hj, h1, h2⟩
    rw [decide_eq_true_eq] at h1
    exact ⟨j, hj, (hk_pos g hi k j (by omega)).1 h1, h2⟩
theorem edge_mem {I : List (List UInt8)} {j v : Nat} (hj : j < I.length) : edge I j v ↔ letr v ∈ I[j]'hj := by
  unfold edge ct
  rw [List.getD_eq_getElem?_getD, List.getElem?_eq_getElem hj, Option.getD_some, List.count_pos_iff]
theorem mem_take_succ {L : List UInt8} {q : Nat} (hq : q < L.length) (c : UInt8) : c ∈ L.take (q + 1) ↔ c ∈ L.take q ∨ c = L[q]'hq := by
  rw [List.take_succ_eq_append_getElem hq, List.mem_append, List.mem_singleton]

set_option maxRecDepth 100000 in
set_option maxHeartbeats 4000000 in
theorem spec_IsPrimitive (B : Nat) (v : Value) (I : List (List UInt8)) (w : World) (h : OwnS w B v (I.map bt)) (t : Tot I) :
    Calls Try.prog 41 #[.agg #[v]] w fun e w' => e = .returned (.tuple #[.bool (primR I).1, .int .i64 (primR I).2]) ∧ Below w.heap.size w w' := by
  obtain ⟨i0, hi, hz0, hz1, hz2⟩ := info_parts infoI64
  by_cases g : Mor I
  · have h1 := g.len1
    have h5 := g.len5
    obtain ⟨p, cap, rfl, hg, hc, cell⟩ := h.rowM (by omega)
    obtain ⟨W1, hW1⟩ : ∃ W1 : World, W1 = w.alloc (.cells #[.slice (some ⟨p, 0, none⟩) I.length cap] 57) := ⟨_, rfl⟩
    have B1 : Below w.heap.size w W1 := by rw [hW1]; exact Below.new _ _
    have Q1 : Boxed W1 w.heap.size 57 (.slice (some ⟨p, 0, none⟩) I.length cap) := by rw [hW1]; exact Boxed.new _ _ _
    have c1 := fun W h => l06Is_any B (.slice (some ⟨p, 0, none⟩) I.length cap) I W h t
    rw [primR_ok g]
    have C := Lib.hid cell
    have G := Lib.hid g
    have HW1 := Lib.hid hW1
    have HB1 := Lib.hid B1
    have HQ1 := Lib.hid Q1
    have C1 := Lib.hid c1
    have H := Lib.hid (h.below B1)
    have hs1 := B1.size
    clear h cell g hW1 B1 Q1 c1
    go_enter Try.func41, Try.ntmps41
    go_wp2_with fail
    rw [← HW1.out]
    have kq := HQ1.out.cell
    go_wp2_with fail
    refine (C1.out _ H.out).mono ?_
    rintro e w1 ⟨rfl, b1⟩
    rw [decide_eq_true G.out]
    have q2 := boxed_later HQ1.out b1
    have kq := q2.cell
    have hz2' := b1.size
    have HZ := Lib.hid fun i hi => sB_zero G.out (i := i) hi
    have HB2 := Lib.hid b1
    have L0 : (w1.alloc (.cells #[] 2)).ownsRow w1.heap.size 2 1 (.slice (some ⟨w1.heap.size, 0, none⟩) 0 0) 0 ((setL I 0 0).map (Value.int .i64)) := World.ownsRow_lit w1 #[] 0 (Nat.le_refl _) (by decide) (by simp [setL])
    have HL0 := Lib.hid L0
    clear L0 b1
    go_wp2_with fail
    go_loopg [5, 6] I.length (fun gk v s wr => ∃ k : Nat, k + gk = I.length ∧ s = .int .i64 (k : Int) ∧ wr.ownsRow w1.heap.size 2 1 v k ((setL I 0 k).map (Value.int .i64)) ∧ Below w1.heap.size w1 wr)
    case atStart => exact ⟨0, by omega, rfl, HL0.out, Below.new _ _⟩
    case round =>
      clear kq
      obtain ⟨k, hk, rfl, hown, hB⟩ := hrel
      have hbz := hB.size
      by_cases hp : k < I.length
      · obtain ⟨g1, rfl⟩ : ∃ j, gk = j + 1 := ⟨gk - 1, by omega⟩
        have hpi : (k : Int) < (I.length : Int) := by omega
        have h2k := pow_small (i := k) (by omega)
        have hsn := setL_snoc I 0 k
        rw [HZ.out k hp] at hsn
        have HSN := Lib.hid hsn
        clear hsn
        have ew : IntKind.u64.wrap (k : Int) = (k : Int) := IntWalk.u64_in _ (by omega)
        have hsh := wrap_two k (by omega)
        generalize (2 : Nat) ^ k = z at *
        go_wp2_with (at_builtin; go_loud (refine wpList_append_own _ rfl _ _ 30 rfl w1.heap.size 2 i0 (.int .i64 0) 1 8 Try.underlying30 hi hz0 hz1 hz2 rfl (by decide) _ _ _ rfl (hown.alloc _) ⟨_, 0, none⟩ 1 1 [.int .i64 (z : Int)] rfl rfl (cell_new _ _ _) (by intro u hu; simp at hu; subst hu; rfl) (by unfold maxLen; omega) (by omega) (by simp; omega) ?_); intro v' w3 hown' hgrow _)
        go_roundg g1
        case measure => omega
        case rel => exact ⟨k + 1, by omega, by go_num, by rw [HSN.out, List.map_append]; exact hown', (hB.alloc hbz _).grown hgrow (by simp; omega) (fun q hq => (hown.lt q hq).1)⟩
      · obtain rfl : gk = 0 := by omega
        obtain rfl : k = I.length := by omega
        have hpi : ¬ (I.length : Int) < (I.length : Int) := by omega
        obtain ⟨M, hM⟩ : ∃ M, I.length * I.length = M := ⟨_, rfl⟩
        have hM25 : M ≤ 25 := by rw [← hM]; exact Nat.mul_le_mul h5 h5
        have hmm : (I.length : Int) * (I.length : Int) = (M : Int) := by rw [← hM]; norm_cast
        have HM := Lib.hid hM
        have HOWN := Lib.hid hown
        have HBB := Lib.hid hB
        clear hM hown hB HL0
        go_wp2_with fail
        go_loopg [5, 7] M (fun gk v s wr => ∃ k : Nat, k + gk = M ∧ s = .int .i64 (k : Int) ∧ wr.ownsRow w1.heap.size 2 1 v I.length ((setL I k I.length).map (Value.int .i64)) ∧ Hid (∀ j, 0 < j → j ≤ k → ¬ Full I.length (edge I) j) ∧ Below w1.heap.size w1 wr)
        case atStart => exact ⟨0, by omega, rfl, HOWN.out, Lib.hid fun j h1 h2 => by omega, HBB.out⟩
        case round =>
          clear hbz
          obtain ⟨k, hk, rfl, hown, HN, hB⟩ := hrel
          have hbz := hB.size
          by_cases hpk : k < M
          · obtain ⟨g2, rfl⟩ : ∃ j, gk = j + 1 := ⟨gk - 1, by omega⟩
            have hpki : (k : Int) < (M : Int) := by omega
            obtain ⟨wo, hwo⟩ : ∃ wo : World, wo = wr := ⟨_, rfl⟩
            rw [← hwo] at hown hB hbz
            rw [← hwo]
            have L0 : (wo.alloc (.cells #[] 2)).ownsRow wo.heap.size 2 1 (.slice (some ⟨wo.heap.size, 0, none⟩) 0 0) 0 ((setL I (k + 1) 0).map (Value.int .i64)) := World.ownsRow_lit wo #[] 0 (Nat.le_refl _) (by decide) (by simp [setL])
            have HL0 := Lib.hid L0
            have hO : OwnI wo w1.heap.size u5 (setL I k I.length) := by unfold OwnI; rw [setL_len]; exact hown
            obtain ⟨gn, cn, hv, -, hgn, hcn, -, celln, -⟩ := hO.row (by rw [setL_len]; omega)
            rw [setL_len] at hv hcn
            subst hv
            have CN : Hid (∀ j, j < I.length → wo.cell? ⟨gn, j, none⟩ = some (.int .i64 (bn (sB I k j) I.length : Int))) := Lib.hid fun j hj => by
              rw [celln j (by rw [setL_len]; exact hj), setL_get]
            clear hO celln
            have HOW := Lib.hid hown
            have HBO := Lib.hid hB
            clear L0 hown hB hwo
            go_wp2_with fail
            go_loopg [8, 9, 10] I.length (fun gk v8 s9 s10 wr => ∃ i : Nat, i + gk = I.length ∧ s10 = .int .i64 (i : Int) ∧ s9 = .bool (allB I (k + 1) i) ∧ wr.ownsRow wo.heap.size 2 1 v8 i ((setL I (k + 1) i).map (Value.int .i64)) ∧ Below wo.heap.size wo wr)
            case atStart => exact ⟨0, by omega, rfl, by rw [allB_zero], HL0.out, Below.new _ _⟩
            case round =>
              obtain ⟨i, hik, rfl, rfl, hown8, hB8⟩ := hrel
              have hbz8 := hB8.size
              by_cases hpi : i < I.length
              · obtain ⟨g3, rfl⟩ : ∃ j, gk = j + 1 := ⟨gk - 1, by omega⟩
                have hpii : (i : Int) < (I.length : Int) := by omega
                obtain ⟨w4, hw4⟩ : ∃ w4 : World, w4 = wr := ⟨_, rfl⟩
                rw [← hw4] at hown8 hB8 hbz8
                rw [← hw4]
                clear hw4
                go_wp2_with fail
                have B14 : Below w1.heap.size w1 w4 := HBO.out.then hB8
                have kbox := (boxed_later q2 B14).cell
                have ci : w4.cell? ⟨gn, i, none⟩ = some (.int .i64 (bn (sB I k i) I.length : Int)) := by rw [(bcell hB8).1 gn i hgn]; exact CN.out i hpi
                have hic : i < cn := by omega
                have hrow : Hid (∀ j (hj : j < I.length), w4.cell? ⟨p, j, none⟩ = some (.string (bt (I[j]'hj)))) := Lib.hid fun j hj => by
                  rw [(bcell (HB1.out.then (HB2.out.then B14))).1 p j hg]; exact C.out j hj
                have HOWN8 := Lib.hid hown8
                have HB8 := Lib.hid hB8
                clear hown8 hB8
                go_loopg [11, 12] I.length (fun gk s11 s12 wr => ∃ (j : Nat) (o : Nat → Bool), j + gk = I.length ∧ s12 = .int .i64 (j : Int) ∧ s11 = .int .i64 (bn o I.length : Int) ∧ Hid (∀ v, v < I.length → (o v = true ↔ ∃ j', j' < j ∧ sB I k i j' = true ∧ edge I j' v)) ∧ w4 = wr)
                case atStart => exact ⟨0, fun _ => false, by omega, rfl, by rw [bn_none]; rfl, Lib.hid fun v hv => by constructor; (intro e; cases e); (rintro ⟨j', h1, _⟩; omega), rfl⟩
                case round =>
                  obtain ⟨j, o, hjk, rfl, rfl, HO, hwr⟩ := hrel
                  subst hwr
                  by_cases hpj : j < I.length
                  · obtain ⟨g4, rfl⟩ : ∃ j, gk = j + 1 := ⟨gk - 1, by omega⟩
                    have hpji : (j : Int) < (I.length : Int) := by omega
                    have hsh := shr_at (bn (sB I k i) I.length) j (by omega)
                    have hat := bn_at (sB I k i) hpj
                    have hlt := bn_small (sB I k i) h5
                    have hqt : bn (sB I k i) I.length / 2 ^ j < 32 := Nat.lt_of_le_of_lt (Nat.div_le_self _ _) hlt
                    have hand := and_small _ hqt
                    rw [hat] at hand
                    have hej : (bn (sB I k i) I.length : Int) / (2 : Int) ^ j = ((bn (sB I k i) I.length / 2 ^ j : Nat) : Int) := by simp
                    obtain ⟨qq, hqq⟩ : ∃ qq, bn (sB I k i) I.length / 2 ^ j = qq := ⟨_, rfl⟩
                    rw [hqq] at hej hand
                    clear hsh hat hqq hqt
                    generalize bn (sB I k i) I.length = a at *
                    cases hsb : sB I k i j with
                    | false =>
                      rw [hsb, if_neg (by simp)] at hand
                      have HO2 : Hid (∀ v, v < I.length → (o v = true ↔ ∃ j', j' < j + 1 ∧ sB I k i j' = true ∧ edge I j' v)) := Lib.hid fun v hv => by
                        rw [HO.out v hv]
                        constructor
                        · rintro ⟨j', h1, h2⟩; exact ⟨j', by omega, h2⟩
                        · rintro ⟨j', h1, h2, h3⟩
                          by_cases e : j' = j
                          · subst e; rw [hsb] at h2; cases h2
                          · exact ⟨j', by omega, h2, h3⟩
                      clear hsb
                      go_wp2_with fail
                      go_roundg g4
                      case measure => omega
                      case rel => exact ⟨j + 1, o, by omega, by go_num, rfl, HO2, rfl⟩
                    | true =>
                      rw [hsb, if_pos rfl] at hand
                      have him := G.out.im j hpj
                      have kc := hrow.out j hpj
                      have HED := Lib.hid fun v => edge_mem (I := I) (j := j) (v := v) hpj
                      obtain ⟨s12, sw, sf⟩ := him
                      have hjc : j < cap := by omega
                      have hzl : (bt (I[j]'hpj)).size = (I[j]'hpj).length := rfl
                      have hzg : ∀ q (hq : q < (I[j]'hpj).length) (hq' : q < (bt (I[j]'hpj)).size), (bt (I[j]'hpj))[q]'hq' = (I[j]'hpj)[q]'hq := fun q hq hq' => rfl
                      have hlo : ∀ q (hq' : q < (bt (I[j]'hpj)).size), 97 ≤ ((bt (I[j]'hpj))[q]'hq').toNat ∧ ((bt (I[j]'hpj))[q]'hq').toNat < 97 + I.length := fun q hq' => ⟨sw.lo q hq', sf q hq'⟩
                      generalize hL : I[j]'hpj = L at *
                      generalize bt L = z at *
                      have HZG := Lib.hid hzg
                      have HLO := Lib.hid hlo
                      have HSB := Lib.hid hsb
                      have HLL : Hid (L.length = z.size) := Lib.hid hzl.symm
                      clear hzg hlo sw sf hsb hL
                      go_wp2_with fail
                      go_loopg [11, 13] z.size (fun gk s11 s13 wr => ∃ (q : Nat) (o2 : Nat → Bool), q + gk = z.size ∧ s13 = .int .i64 (q : Int) ∧ s11 = .int .i64 (bn o2 I.length : Int) ∧ Hid (∀ v, v < I.length → (o2 v = true ↔ (o v = true ∨ letr v ∈ L.take q))) ∧ w4 = wr)
                      case atStart => exact ⟨0, o, by omega, rfl, rfl, Lib.hid fun v hv => by simp, rfl⟩
                      case round =>
                        obtain ⟨q, o2, hqk, rfl, rfl, HO2, hwr⟩ := hrel
                        subst hwr
                        by_cases hpq : q < z.size
                        · obtain ⟨g5, rfl⟩ : ∃ j, gk = j + 1 := ⟨gk - 1, by omega⟩
                          have hpqi : (q : Int) < (z.size : Int) := by omega
                          obtain ⟨n1, n2⟩ := HLO.out q hpq
                          obtain ⟨n, hn⟩ : ∃ n : Nat, ((z[q]'hpq).toNat : Int) = (n : Int) + 97 := ⟨(z[q]'hpq).toNat - 97, by omega⟩
                          have hnl : n < I.length := by omega
                          have hcl : Hid (L[q]'(by rw [HLL.out]; exact hpq) = letr n) := Lib.hid (by
                            rw [← HZG.out q (by rw [HLL.out]; exact hpq) hpq]
                            apply UInt8.toNat_inj.1
                            rw [letr_nat (by omega)]
                            omega)
                          have HTS : Hid (∀ c, c ∈ L.take (q + 1) ↔ c ∈ L.take q ∨ c = L[q]'(by rw [HLL.out]; exact hpq)) := Lib.hid fun c => mem_take_succ _ c
                          have hsh := wrap_two n (by omega)
                          have h2n := pow_small (i := n) (by omega)
                          have hbo := bn_or hnl o2
                          have h2l : 2 ^ n < 32 := by
                            rcases (show n = 0 ∨ n = 1 ∨ n = 2 ∨ n = 3 ∨ n = 4 by omega) with e | e | e | e | e <;> subst e <;> decide
                          have hor := or_small (bn o2 I.length) (2 ^ n) (bn_small o2 h5) h2l
                          rw [hbo] at hor
                          have HO3 : Hid (∀ v, v < I.length → ((o2 v || decide (v = n)) = true ↔ (o v = true ∨ letr v ∈ L.take (q + 1)))) := Lib.hid fun v hv => by
                            rw [HTS.out, hcl.out, Bool.or_eq_true, HO2.out v hv, decide_eq_true_eq, or_assoc]
                            have : v = n ↔ letr v = letr n := ⟨fun e => by rw [e], fun e => letr_inj (by omega) (by omega) e⟩
                            rw [this]
                          clear hbo h2l
                          generalize (2 : Nat) ^ n = y at *
                          generalize bn o2 I.length = a2 at *
                          generalize hbq : bn (fun j => o2 j || decide (j = n)) I.length = a3 at *
                          have HBQ := Lib.hid hbq
                          clear hbq
                          go_wp2_with fail
                          go_roundg g5
                          case measure => omega
                          case rel => exact ⟨q + 1, fun j => o2 j || decide (j = n), by omega, by go_num, by rw [HBQ.out], HO3, rfl⟩
                        · obtain rfl : gk = 0 := by omega
                          obtain rfl : q = z.size := by omega
                          have hpqi : ¬ (z.size : Int) < (z.size : Int) := by omega
                          have HO3 : Hid (∀ v, v < I.length → (o2 v = true ↔ ∃ j', j' < j + 1 ∧ sB I k i j' = true ∧ edge I j' v)) := Lib.hid fun v hv => by
                            rw [HO2.out v hv, ← HLL.out, List.take_length, ← HED.out v, HO.out v hv]
                            constructor
                            · rintro (⟨j', h1, h2⟩ | h)
                              · exact ⟨j', by omega, h2⟩
                              · exact ⟨j, by omega, HSB.out, h⟩
                            · rintro ⟨j', h1, h2, h3⟩
                              by_cases e : j' = j
                              · subst e; exact .inr h3
                              · exact .inl ⟨j', by omega, h2, h3⟩
                          go_wp2_with fail
                          go_roundg g4
                          case measure => omega
                          case rel => exact ⟨j + 1, o2, by omega, by go_num, rfl, HO3, rfl⟩
                  · obtain rfl : gk = 0 := by omega
                    obtain rfl : j = I.length := by omega
                    have hpji : ¬ (I.length : Int) < (I.length : Int) := by omega
                    have hown8 := HOWN8.out
                    have hB8 := HB8.out
                    have HB3 : Hid (bn o I.length = bn (sB I (k + 1) i) I.length) := Lib.hid (bn_ext fun v hv => by
                      rw [Bool.eq_iff_iff, HO.out v hv, sB_step G.out hpi hv])
                    have hb32 := bn_small o h5
                    have HSN := Lib.hid (setL_snoc I (k + 1) i)
                    have HAS := Lib.hid (allB_succ I (k + 1) i)
                    rw [← HB3.out] at HSN HAS
                    have hsh := wrap_two I.length h5
                    have h2n := pow_small h5
                    have h2p : 1 ≤ 2 ^ I.length := Nat.one_le_two_pow
                    generalize bn o I.length = a at *
                    generalize (2 : Nat) ^ I.length = z at *
                    cases hal : allB I (k + 1) i with
                    | false =>
                      rw [hal] at HAS
                      clear hal
                      go_wp2_with (at_builtin; go_loud (refine wpList_append_own _ rfl _ _ 30 rfl wo.heap.size 2 i0 (.int .i64 0) 1 8 Try.underlying30 hi hz0 hz1 hz2 rfl (by decide) _ _ _ rfl (hown8.alloc _) ⟨_, 0, none⟩ 1 1 [.int .i64 (a : Int)] rfl rfl (cell_new _ _ _) (by intro u hu; simp at hu; subst hu; rfl) (by unfold maxLen; omega) (by omega) (by simp; omega) ?_); intro v' w5 hown' hgrow _)
                      go_roundg g3
                      case measure => omega
                      case rel => exact ⟨i + 1, by omega, by go_num, by rw [HAS.out]; rfl, by rw [HSN.out, List.map_append]; exact hown', (hB8.alloc hbz8 _).grown hgrow (by simp; omega) (fun q hq => (hown8.lt q hq).1)⟩
                    | true =>
                      rw [hal] at HAS
                      clear hal
                      have HE : Hid (((a : Int) == (z : Int) - 1) = (true && (a == z - 1))) := Lib.hid (by
                        rw [Bool.true_and, Bool.eq_iff_iff, beq_iff_eq, beq_iff_eq]
                        omega)
                      go_wp2_with (at_builtin; go_loud (refine wpList_append_own _ rfl _ _ 30 rfl wo.heap.size 2 i0 (.int .i64 0) 1 8 Try.underlying30 hi hz0 hz1 hz2 rfl (by decide) _ _ _ rfl (hown8.alloc _) ⟨_, 0, none⟩ 1 1 [.int .i64 (a : Int)] rfl rfl (cell_new _ _ _) (by intro u hu; simp at hu; subst hu; rfl) (by unfold maxLen; omega) (by omega) (by simp; omega) ?_); intro v' w5 hown' hgrow _)
                      go_roundg g3
                      case measure => omega
                      case rel => exact ⟨i + 1, by omega, by go_num, by rw [HAS.out, ← HE.out], by rw [HSN.out, List.map_append]; exact hown', (hB8.alloc hbz8 _).grown hgrow (by simp; omega) (fun q hq => (hown8.lt q hq).1)⟩
              · obtain rfl : gk = 0 := by omega
                obtain rfl : i = I.length := by omega
                have hpii : ¬ (I.length : Int) < (I.length : Int) := by omega
                have HAI := Lib.hid (allB_iff G.out (k + 1))
                cases hal : allB I (k + 1) I.length with
                | true =>
                  have HP := Lib.hid (primB_of G.out (k := k + 1) (by omega) (HAI.out.1 hal))
                  clear hal
                  go_wp2_with fail
                  go_ret2
                  exact ⟨by rw [HP.out]; rfl, HB1.out.then (HB2.out.then (HBO.out.then hB8))⟩
                | false =>
                  have HN2 : Hid (∀ j, 0 < j → j ≤ k + 1 → ¬ Full I.length (edge I) j) := Lib.hid fun j h1 h2 => by
                    by_cases e : j = k + 1
                    · subst e
                      intro hc
                      rw [HAI.out.2 hc] at hal
                      cases hal
                    · exact HN.out j h1 (by omega)
                  clear hal
                  go_wp2_with fail
                  go_roundg g2
                  case measure => omega
                  case rel => exact ⟨k + 1, by omega, by go_num, own_base hown8 hbz, HN2, HBO.out.then hB8⟩
          · obtain rfl : gk = 0 := by omega
            obtain rfl : k = M := by omega
            have hpki : ¬ (k : Int) < (k : Int) := by omega
            have HP : Hid (primB I = false) := Lib.hid (by
              rw [Bool.eq_false_iff]
              intro hc
              have h1 := primN_sq G.out
              rw [HM.out] at h1
              exact HN.out (primN I) (by unfold primN; omega) h1 ((primB_full G.out).1 hc))
            go_wp2_with fail
            go_ret2
            exact ⟨by rw [HP.out]; rfl, HB1.out.then (HB2.out.then hB)⟩
  · obtain ⟨p, c, hv⟩ := ownS_value h
    rw [List.length_map] at hv
    subst hv
    obtain ⟨W1, hW1⟩ : ∃ W1 : World, W1 = w.alloc (.cells #[.slice p I.length c] 57) := ⟨_, rfl⟩
    have B1 : Below w.heap.size w W1 := by rw [hW1]; exact Below.new _ _
    have Q1 : Boxed W1 w.heap.size 57 (.slice p I.length c) := by rw [hW1]; exact Boxed.new _ _ _
    have c1 := fun W h => l06Is_any B (.slice p I.length c) I W h t
    rw [primR_bad g]
    rw [decide_eq_false g] at c1
    have HW1 := Lib.hid hW1
    have HB1 := Lib.hid B1
    have HQ1 := Lib.hid Q1
    have C1 := Lib.hid c1
    have H := Lib.hid (h.below B1)
    have hs1 := B1.size
    clear h g hW1 B1 Q1 c1
    go_enter Try.func41, Try.ntmps41
    go_wp2_with fail
    rw [← HW1.out]
    have kq := HQ1.out.cell
    go_wp2_with fail
    refine (C1.out _ H.out).mono ?_
    rintro e w1 ⟨rfl, b1⟩
    go_wp2_with fail
    go_ret2
    exact ⟨rfl, HB1.out.then b1⟩

end Go.Proofs.Ytddfdciohnabbab
