/- Plain facts: words that fit patterns. -/
import Derived.Test.YtfipbnognjepkaaDoorPerPlain
import Derived.Test.YtfipbnognjepkaaDoorNamedPlain
namespace Go.Proofs.YtfipbnognjepkaaDoor
set_option linter.unusedVariables false
set_option linter.unusedSimpArgs false

/-- The number of a variable. -/
def vn (c : UInt8) : Nat := c.toNat - 65
/-- A pattern. -/
def IsP (p : ByteArray) : Prop := 0 < p.size ∧ p.size ≤ 8 ∧ ∀ i (h : i < p.size), 65 ≤ (p[i]'h).toNat ∧ (p[i]'h).toNat ≤ 67
def IsPL (P : List UInt8) : Prop := ∀ c ∈ P, 65 ≤ c.toNat ∧ c.toNat ≤ 67
theorem IsP.list {p : ByteArray} (h : IsP p) : IsPL (bl p) := by
  intro c hc
  obtain ⟨i, hi, rfl⟩ := List.getElem_of_mem hc
  exact h.2.2 i hi
theorem IsPL.tail {c : UInt8} {P : List UInt8} (h : IsPL (c :: P)) : IsPL P := fun d hd => h d (List.mem_cons_of_mem _ hd)
theorem IsPL.vn {c : UInt8} {P : List UInt8} (h : IsPL P) (hc : c ∈ P) : vn c ≤ 2 := by have := h c hc; unfold Proofs.YtfipbnognjepkaaDoor.vn; omega
/-- A table with one place told anew. -/
def updV {α : Type} (V : Nat → α) (v : Nat) (x : α) : Nat → α := fun u => if u = v then x else V u
theorem updV_at {α : Type} (V : Nat → α) (v : Nat) (x : α) : updV V v x v = x := if_pos rfl
theorem updV_ne {α : Type} (V : Nat → α) {v u : Nat} (x : α) (h : u ≠ v) : updV V v x u = V u := if_neg h
theorem hz_tail {L : Nat → Nat} {v x : Nat} {vs : List Nat} (hd : v ∉ vs) (hz : ∀ u ∈ v :: vs, L u = 0) : ∀ u ∈ vs, updV L v x u = 0 := by
  intro u hu
  have hne : u ≠ v := fun e => hd (e ▸ hu)
  rw [updV_ne _ _ hne]
  exact hz u (List.mem_cons_of_mem _ hu)
/-- How often a variable stands in a pattern. -/
def cntV (P : List UInt8) (v : Nat) : Nat := (P.filter fun c => decide (vn c = v)).length
def totL (L : Nat → Nat) : List UInt8 → Nat
  | [] => 0
  | c :: P => L (vn c) + totL L P
theorem cntV_cons (c : UInt8) (P : List UInt8) (v : Nat) : cntV (c :: P) v = (if vn c = v then 1 else 0) + cntV P v := by
  unfold cntV
  by_cases h : vn c = v
  · simp [h]; omega
  · simp [h]
theorem totL_upd (L : Nat → Nat) (v n : Nat) (hL : L v = 0) : ∀ P : List UInt8, totL (updV L v n) P = totL L P + n * cntV P v
  | [] => by simp [totL, cntV]
  | c :: P => by
    rw [totL, totL, totL_upd L v n hL P, cntV_cons]
    by_cases h : vn c = v
    · rw [h, updV_at, hL, if_pos rfl, Nat.mul_add, Nat.mul_one]; omega
    · rw [updV_ne _ _ h, if_neg h, Nat.zero_add]; omega
/-- The values that the letters of R have in the places of a pattern, by their lengths, if they agree; those that are told already are V. -/
def giv (L : Nat → Nat) : List UInt8 → List UInt8 → (Nat → List UInt8) → Option (Nat → List UInt8)
  | [], _, V => some V
  | c :: P, R, V => if V (vn c) = [] ∨ V (vn c) = R.take (L (vn c)) then giv L P (R.drop (L (vn c))) (updV V (vn c) (R.take (L (vn c)))) else none
theorem giv_take (L : Nat → Nat) : ∀ (P R : List UInt8) (V : Nat → List UInt8) (m : Nat), totL L P ≤ m → giv L P (R.take m) V = giv L P R V
  | [], _, _, _, _ => rfl
  | c :: P, R, V, m, h => by
    rw [totL] at h
    rw [giv, giv, List.take_take, Nat.min_eq_left (by omega), List.drop_take, giv_take L P _ _ (m - L (vn c)) (by omega)]
/-- The values of the first list of lengths with which R fits a pattern, of so many letters left, the variables of vs being open. -/
def srch (R P : List UInt8) : List Nat → (Nat → Nat) → Nat → Option (Nat → List UInt8)
  | [], L, left => if left = 0 then giv L P R (fun _ => []) else none
  | v :: vs, L, left => (List.range' 1 left).findSome? fun n => if n * cntV P v ≤ left then srch R P vs (updV L v n) (left - n * cntV P v) else none
theorem fsome_congr {α β : Type} {f g : α → Option β} : ∀ {l : List α}, (∀ x ∈ l, f x = g x) → l.findSome? f = l.findSome? g
  | [], _ => rfl
  | a :: l, h => by
    rw [List.findSome?_cons, List.findSome?_cons, h a (List.mem_cons_self ..), fsome_congr fun x hx => h x (List.mem_cons_of_mem _ hx)]
theorem srch_take (R P : List UInt8) (m : Nat) : ∀ (vs : List Nat) (L : Nat → Nat) (left : Nat), vs.Nodup → (∀ v ∈ vs, L v = 0) → totL L P + left = m → srch (R.take m) P vs L left = srch R P vs L left
  | [], L, left, _, _, h => by
    rw [srch, srch]
    by_cases e : left = 0
    · rw [if_pos e, if_pos e, giv_take _ _ _ _ _ (by omega)]
    · rw [if_neg e, if_neg e]
  | v :: vs, L, left, hd, hz, h => by
    rw [srch, srch]
    refine fsome_congr fun n hn => ?_
    by_cases e : n * cntV P v ≤ left
    · rw [if_pos e, if_pos e]
      have hv := hz v (List.mem_cons_self ..)
      rw [List.nodup_cons] at hd
      refine srch_take R P m vs _ _ hd.2 (fun u hu => ?_) (by rw [totL_upd _ _ _ hv]; omega)
      have hne : u ≠ v := fun e => hd.1 (e ▸ hu)
      rw [updV_ne _ _ hne]
      exact hz u (List.mem_cons_of_mem _ hu)
    · rw [if_neg e, if_neg e]

/-! ### Searches by numbers. -/
theorem seek_none {β : Type} {f : Nat → Option β} {left : Nat} (h : ∀ m, 1 ≤ m → m ≤ left → f m = none) : (List.range' 1 left).findSome? f = none := by
  rw [List.findSome?_eq_none_iff]
  intro x hx
  rw [List.mem_range'_1] at hx
  exact h x hx.1 (by omega)
theorem seek_at {β : Type} {f : Nat → Option β} {left n : Nat} {y : β} (h : ∀ m, 1 ≤ m → m < n → f m = none) (h1 : 1 ≤ n) (h2 : n ≤ left) (hy : f n = some y) : (List.range' 1 left).findSome? f = some y := by
  have e : List.range' 1 left = List.range' 1 (n - 1) ++ (n :: List.range' (n + 1) (left - n)) := by
    have e1 : n :: List.range' (n + 1) (left - n) = List.range' (1 + 1 * (n - 1)) (left - (n - 1)) := by
      rw [show left - (n - 1) = (left - n) + 1 by omega, List.range'_succ, show 1 + 1 * (n - 1) = n by omega]
    rw [e1, List.range'_append, show n - 1 + (left - (n - 1)) = left by omega]
  rw [e, List.findSome?_append, seek_none (fun m a b => h m a (by omega)), List.findSome?_cons, hy]
  rfl
theorem seek_some {β : Type} {f : Nat → Option β} {left : Nat} {y : β} (h : (List.range' 1 left).findSome? f = some y) : ∃ n, 1 ≤ n ∧ n ≤ left ∧ f n = some y ∧ ∀ m, 1 ≤ m → m < n → f m = none := by
  rcases Nat.lt_or_ge 0 left with h0 | h0
  · have hh : ∀ l : Nat, l ≤ left → (∃ n, 1 ≤ n ∧ n ≤ l ∧ (∃ z, f n = some z) ∧ ∀ m, 1 ≤ m → m < n → f m = none) ∨ (∀ m, 1 ≤ m → m ≤ l → f m = none) := by
      intro l
      induction l with
      | zero => intro _; exact .inr fun m a b => by omega
      | succ l ih =>
        intro hl
        rcases ih (by omega) with ⟨n, a, b, c⟩ | hn
        · exact .inl ⟨n, a, by omega, c⟩
        · cases e : f (l + 1) with
          | some z => exact .inl ⟨l + 1, by omega, by omega, ⟨z, e⟩, fun m a b => hn m a (by omega)⟩
          | none =>
            refine .inr fun m a b => ?_
            rcases Nat.lt_or_ge l m with q | q
            · rw [show m = l + 1 by omega]; exact e
            · exact hn m a q
    rcases hh left (Nat.le_refl _) with ⟨n, a, b, ⟨z, hz⟩, c⟩ | hn
    · rw [seek_at c a b hz] at h
      exact ⟨n, a, b, by rw [hz, ← h], c⟩
    · rw [seek_none hn] at h; cases h
  · rw [show left = 0 by omega] at h
    cases h
/-- Only one number is asked where one variable is left. -/
theorem srch_last {R P : List UInt8} {v : Nat} {L : Nat → Nat} {left : Nat} (hc : 0 < cntV P v) :
    srch R P [v] L left = if 0 < left / cntV P v ∧ left / cntV P v * cntV P v = left then giv (updV L v (left / cntV P v)) P R (fun _ => []) else none := by
  rw [srch]
  generalize hcv : cntV P v = c at *
  have hnone : ∀ n, 1 ≤ n → n ≠ left / c ∨ left / c * c ≠ left → (if n * c ≤ left then srch R P [] (updV L v n) (left - n * c) else none) = none := by
    intro n h1 h2
    by_cases e : n * c ≤ left
    · rw [if_pos e, srch, if_neg]
      intro e2
      have e3 : n * c = left := by omega
      have e4 : left / c = n := by rw [← e3]; exact Nat.mul_div_cancel _ hc
      rcases h2 with h2 | h2
      · exact h2 e4.symm
      · rw [e4] at h2; exact h2 e3
    · rw [if_neg e]
  by_cases h : 0 < left / c ∧ left / c * c = left
  · rw [if_pos h]
    have hle : left / c ≤ left := Nat.div_le_self _ _
    cases hg : giv (updV L v (left / c)) P R (fun _ => []) with
    | none =>
      refine seek_none fun m a b => ?_
      by_cases e : m = left / c
      · rw [e, if_pos (by omega), srch, if_pos (by omega), hg]
      · exact hnone m a (.inl e)
    | some y =>
      refine seek_at (fun m a b => hnone m a (.inl (by omega))) h.1 hle ?_
      rw [if_pos (by omega), srch, if_pos (by omega), hg]
  · rw [if_neg h]
    refine seek_none fun m a b => hnone m a ?_
    by_cases e : left / c * c = left
    · left
      intro e2
      exact h ⟨by omega, e⟩
    · exact .inr e
/-- Nothing is found with no letters left and a variable open. -/
theorem srch_zero (R P : List UInt8) (v : Nat) (vs : List Nat) (L : Nat → Nat) : srch R P (v :: vs) L 0 = none := rfl

/-! ### What is found, and when. -/
def subV (V : Nat → List UInt8) (P : List UInt8) : List UInt8 := P.flatMap fun c => V (vn c)
def Fits (R P : List UInt8) : Prop := ∃ V : Nat → List UInt8, (∀ c ∈ P, V (vn c) ≠ []) ∧ R = subV V P
theorem giv_sound (L : Nat → Nat) : ∀ (P R : List UInt8) (V W : Nat → List UInt8), giv L P R V = some W → (∀ c ∈ P, 1 ≤ L (vn c)) → totL L P ≤ R.length →
    (∀ v, V v ≠ [] → W v = V v) ∧ (∀ c ∈ P, (W (vn c)).length = L (vn c)) ∧ R.take (totL L P) = subV W P
  | [], R, V, W, h, _, _ => by
    rw [giv] at h
    cases h
    exact ⟨fun _ _ => rfl, fun c hc => (by cases hc), by simp [totL, subV]⟩
  | c :: P, R, V, W, h, h1, ht => by
    rw [totL] at ht
    rw [giv] at h
    by_cases hv : V (vn c) = [] ∨ V (vn c) = R.take (L (vn c))
    · rw [if_pos hv] at h
      have hc1 := h1 c (List.mem_cons_self ..)
      have hlen : (R.take (L (vn c))).length = L (vn c) := by rw [List.length_take]; omega
      have hne : R.take (L (vn c)) ≠ [] := fun e => by rw [e] at hlen; simp at hlen; omega
      obtain ⟨a1, a2, a3⟩ := giv_sound L P _ _ W h (fun d hd => h1 d (List.mem_cons_of_mem _ hd)) (by rw [List.length_drop]; omega)
      have hW : W (vn c) = R.take (L (vn c)) := by rw [a1 (vn c) (by rw [updV_at]; exact hne), updV_at]
      refine ⟨fun v hv2 => ?_, fun d hd => ?_, ?_⟩
      · by_cases e : v = vn c
        · subst e
          rcases hv with hv | hv
          · exact absurd hv hv2
          · rw [hW, hv]
        · rw [a1 v (by rw [updV_ne _ _ e]; exact hv2), updV_ne _ _ e]
      · rcases List.mem_cons.1 hd with rfl | hd
        · rw [hW, hlen]
        · exact a2 d hd
      · rw [totL, List.take_add, a3]
        show _ = subV W (c :: P)
        unfold subV
        rw [List.flatMap_cons, hW]
    · rw [if_neg hv] at h; cases h
theorem giv_full (L : Nat → Nat) (W : Nat → List UInt8) : ∀ (P S : List UInt8) (V : Nat → List UInt8), (∀ c ∈ P, (W (vn c)).length = L (vn c)) → (∀ v, V v = [] ∨ V v = W v) → (giv L P (subV W P ++ S) V).isSome = true
  | [], _, _, _, _ => rfl
  | c :: P, S, V, h1, h2 => by
    have hc := h1 c (List.mem_cons_self ..)
    have e1 : subV W (c :: P) ++ S = W (vn c) ++ (subV W P ++ S) := by unfold subV; rw [List.flatMap_cons, List.append_assoc]
    have e2 : (W (vn c) ++ (subV W P ++ S)).take (L (vn c)) = W (vn c) := by rw [← hc, List.take_left]
    have e3 : (W (vn c) ++ (subV W P ++ S)).drop (L (vn c)) = subV W P ++ S := by rw [← hc, List.drop_left]
    rw [giv, e1, e2, e3, if_pos (h2 _)]
    refine giv_full L W P S _ (fun d hd => h1 d (List.mem_cons_of_mem _ hd)) fun v => ?_
    by_cases e : v = vn c
    · rw [e, updV_at]; exact .inr rfl
    · rw [updV_ne _ _ e]; exact h2 v
theorem subV_len (L : Nat → Nat) (W : Nat → List UInt8) : ∀ P : List UInt8, (∀ c ∈ P, (W (vn c)).length = L (vn c)) → (subV W P).length = totL L P
  | [], _ => rfl
  | c :: P, h => by
    have := subV_len L W P (fun d hd => h d (List.mem_cons_of_mem _ hd))
    unfold subV at this ⊢
    rw [List.flatMap_cons, List.length_append, totL, this, h c (List.mem_cons_self ..)]
theorem totL_congr {L L' : Nat → Nat} : ∀ {P : List UInt8}, (∀ c ∈ P, L (vn c) = L' (vn c)) → totL L P = totL L' P
  | [], _ => rfl
  | c :: P, h => by rw [totL, totL, h c (List.mem_cons_self ..), totL_congr fun d hd => h d (List.mem_cons_of_mem _ hd)]
theorem cntV_pos {P : List UInt8} {v : Nat} : 0 < cntV P v ↔ ∃ c ∈ P, vn c = v := by
  unfold cntV
  rw [List.length_pos_iff_exists_mem]
  simp
theorem srch_sound (R P : List UInt8) : ∀ (vs : List Nat) (L : Nat → Nat) (left : Nat) (W : Nat → List UInt8), srch R P vs L left = some W → vs.Nodup → (∀ v ∈ vs, L v = 0) →
    ∃ L', (∀ v, v ∉ vs → L' v = L v) ∧ (∀ v ∈ vs, 1 ≤ L' v) ∧ totL L' P = totL L P + left ∧ giv L' P R (fun _ => []) = some W
  | [], L, left, W, h, _, _ => by
    rw [srch] at h
    by_cases e : left = 0
    · rw [if_pos e] at h
      exact ⟨L, fun _ _ => rfl, fun v hv => (by cases hv), by omega, h⟩
    · rw [if_neg e] at h; cases h
  | v :: vs, L, left, W, h, hd, hz => by
    rw [srch] at h
    obtain ⟨n, h1, h2, h3, _⟩ := seek_some h
    by_cases e : n * cntV P v ≤ left
    · rw [if_pos e] at h3
      rw [List.nodup_cons] at hd
      have hv := hz v (List.mem_cons_self ..)
      obtain ⟨L', a1, a2, a3, a4⟩ := srch_sound R P vs _ _ W h3 hd.2 (hz_tail hd.1 hz)
      refine ⟨L', fun u hu => ?_, fun u hu => ?_, ?_, a4⟩
      · rw [a1 u (fun e => hu (List.mem_cons_of_mem _ e)), updV_ne (u := u) (v := v) _ _ (fun e => hu (e ▸ List.mem_cons_self ..))]
      · rcases List.mem_cons.1 hu with rfl | hu
        · rw [a1 u hd.1, updV_at]; exact h1
        · exact a2 u hu
      · rw [a3, totL_upd _ _ _ hv]; omega
    · rw [if_neg e] at h3; cases h3
theorem srch_full (R P : List UInt8) : ∀ (vs : List Nat) (L : Nat → Nat) (left : Nat) (L' : Nat → Nat), vs.Nodup → (∀ v ∈ vs, L v = 0) → (∀ v ∈ vs, 0 < cntV P v) → (∀ v, v ∉ vs → L' v = L v) → (∀ v ∈ vs, 1 ≤ L' v) →
    totL L' P = totL L P + left → (giv L' P R (fun _ => [])).isSome = true → (srch R P vs L left).isSome = true
  | [], L, left, L', _, _, _, h1, _, h3, h4 => by
    have e : L' = L := funext fun v => h1 v (by simp)
    subst e
    rw [srch, if_pos (by omega)]; exact h4
  | v :: vs, L, left, L', hd, hz, hp, h1, h2, h3, h4 => by
    rw [List.nodup_cons] at hd
    have hv := hz v (List.mem_cons_self ..)
    have hl1 := h2 v (List.mem_cons_self ..)
    have hcv := hp v (List.mem_cons_self ..)
    have hsplit : totL L' P = totL (updV L' v 0) P + L' v * cntV P v := by
      have := totL_upd (updV L' v 0) v (L' v) (updV_at _ _ _) P
      rw [← this]
      refine totL_congr fun c _ => ?_
      by_cases e : vn c = v
      · rw [e, updV_at]
      · rw [updV_ne _ _ e, updV_ne _ _ e]
    have hmono : ∀ Q : List UInt8, totL L Q ≤ totL (updV L' v 0) Q := by
      intro Q
      induction Q with
      | nil => exact Nat.le_refl _
      | cons c Q ih =>
        rw [totL, totL]
        have : L (vn c) ≤ updV L' v 0 (vn c) := by
          by_cases e : vn c = v
          · rw [e, hv]; exact Nat.zero_le _
          · rw [updV_ne _ _ e]
            by_cases e2 : vn c ∈ vs
            · rw [hz _ (List.mem_cons_of_mem _ e2)]; exact Nat.zero_le _
            · rw [h1 _ (fun e3 => by rcases List.mem_cons.1 e3 with e3 | e3; exact e e3; exact e2 e3)]; exact Nat.le_refl _
        omega
    have hm := hmono P
    have hle : L' v * cntV P v ≤ left := by omega
    have hle2 : L' v ≤ left := Nat.le_trans (Nat.le_mul_of_pos_right _ hcv) hle
    have ih := srch_full R P vs (updV L v (L' v)) (left - L' v * cntV P v) L' hd.2 (hz_tail hd.1 hz) (fun u hu => hp u (List.mem_cons_of_mem _ hu))
      (fun u hu => by
        by_cases e : u = v
        · rw [e, updV_at]
        · rw [updV_ne _ _ e]; exact h1 u (fun e3 => by rcases List.mem_cons.1 e3 with e3 | e3; exact e e3; exact hu e3))
      (fun u hu => h2 u (List.mem_cons_of_mem _ hu)) (by rw [h3, totL_upd _ _ _ hv]; omega) h4
    rw [srch]
    cases hs : (List.range' 1 left).findSome? (fun n => if n * cntV P v ≤ left then srch R P vs (updV L v n) (left - n * cntV P v) else none) with
    | some y => rfl
    | none =>
      rw [List.findSome?_eq_none_iff] at hs
      have := hs (L' v) (by rw [List.mem_range'_1]; omega)
      rw [if_pos hle] at this
      rw [this] at ih
      cases ih

end Go.Proofs.YtfipbnognjepkaaDoor
