/- Does a word fit a pattern, in the model: the search letter by letter. -/
import Derived.Test.YtfipbnognjepkaaDoorPatS
namespace Go.Proofs.YtfipbnognjepkaaDoor
set_option linter.unusedVariables false
set_option linter.unusedSimpArgs false
open Go.RowKit

theorem own_empty (W : World) (t : TypeId) : (W.alloc (.cells #[] t)).ownsRow W.heap.size t 1 (.slice (some ⟨W.heap.size, 0, none⟩) 0 0) 0 [] :=
  ⟨rfl, .inr ⟨W.heap.size, 0, #[], rfl, Nat.le_refl _, (by show (W.heap.push _)[W.heap.size]? = _; simp), Nat.le_refl _, Nat.zero_le _, rfl, rfl⟩⟩
theorem own_blk {w : World} {B : Nat} {e : TypeId} {v : Value} {n : Nat} {xs : List Value} (h : w.ownsRow B e 1 v (n + 1) xs) : ∃ g cap, v = .slice (some ⟨g, 0, none⟩) (n + 1) cap ∧ B ≤ g ∧ g < w.heap.size ∧ n + 1 ≤ cap := by
  obtain ⟨_, ⟨_, h0⟩ | ⟨g, cap, cur, rfl, hb, hh, hn, _⟩⟩ := h
  · cases h0
  · exact ⟨g, cap, rfl, hb, (Array.getElem?_eq_some_iff.1 hh).1, hn⟩
theorem three_set {w : World} {B g cap : Nat} {V : Nat → List UInt8} {k : Nat} {l : List UInt8} (hk : k < 3) (h : w.ownsRow B 9 1 (.slice (some ⟨g, 0, none⟩) 3 cap) 3 [.string (bt (V 0)), .string (bt (V 1)), .string (bt (V 2))]) :
    Three (w.setCell ⟨g, k, none⟩ (.string (bt l))) g (updV V k l) := by
  have h2 := (h.stored k (.string (bt l))).1
  refine ⟨by have := (h2.lt g rfl).2; exact this, fun j hj => ?_⟩
  rw [h2.cellAt j (by omega)]
  have hj' : j = 0 ∨ j = 1 ∨ j = 2 := by omega
  have hk' : k = 0 ∨ k = 1 ∨ k = 2 := by omega
  rcases hj' with rfl | rfl | rfl <;> rcases hk' with rfl | rfl | rfl <;> rfl
theorem infoStrP : (Tryd.prog.info? 9).map (fun i => (i.zero, i.size, i.bytes)) = some (some (.string ⟨#[]⟩), 1, 16) := by kernel_rfl

def NoFit (F : Nat → Prop) (m : Nat) : Prop := ∀ k, 1 ≤ k → k < m → ¬ F k

set_option maxRecDepth 100000 in
set_option maxHeartbeats 8000000 in
theorem l10Fit_any : ∀ (P R : List UInt8) (V : Nat → List UInt8) (b cap : Nat) (w : World), IsPL P → P.length ≤ 8 → R.length ≤ 60 → (∀ j, (V j).length ≤ 60) → Three w b V →
    Calls Tryd.prog 130 #[.string (bt R), .string (bt P), .slice (some ⟨b, 0, none⟩) 3 cap] w fun e w' => FitAns R P V e ∧ Below w.heap.size w w'
  | [], R, V, b, cap, w, hP, hP8, hR, hV, hT => by
    have h1 : FitAns R [] V (.returned (.tuple #[.slice (some ⟨b, 0, none⟩) 3 cap, .bool (bt R).toList.isEmpty])) := ⟨_, _, rfl, by rw [bt_empty, fitE_nil, List.isEmpty_iff]⟩
    have H1 := Lib.hid h1
    have hpe : (bt ([] : List UInt8)) = ⟨#[]⟩ := rfl
    clear h1
    rw [hpe]
    go_enter Tryd.func130, Tryd.ntmps130
    go_wp2
    go_ret2
    exact ⟨H1.out, Below.refl _ _⟩
  | c :: P, R, V, b, cap, w, hP, hP8, hR, hV, hT => by
    obtain ⟨i0, hi, hz0, hz1, hz2⟩ := info_parts infoStrP
    have hmo : Tryd.prog.follows .mixedOrders = true := by kernel_rfl
    have hps : (bt (c :: P)).size = P.length + 1 := by rw [bt_size]; rfl
    have hrs : (bt R).size = R.length := bt_size R
    have hpe : (bt (c :: P)).toList.isEmpty = false := by rw [bt_empty]; rfl
    have hp1 := fun W => bt_one (c :: P) (by simp) W
    have hp1' : (c :: P).drop 1 = P := rfl
    rw [hp1'] at hp1
    rw [List.length_cons] at hP8
    by_cases hsh : R.length < P.length + 1
    · have h1 : ∀ v, FitAns R (c :: P) V (.returned (.tuple #[v, .bool false])) := fun v => ⟨_, _, rfl, by
        constructor
        · intro e; cases e
        · intro e; exact absurd e (fitE_short (by rw [List.length_cons]; exact hsh))⟩
      have H1 := Lib.hid h1
      clear h1 hT hV hP
      generalize bt (c :: P) = p at *
      generalize bt R = x at *
      go_enter Tryd.func130, Tryd.ntmps130
      go_wp2
      go_ret2
      exact ⟨H1.out _, Below.refl _ _⟩
    · obtain ⟨hc1, hc2⟩ := hP c (List.mem_cons_self ..)
      obtain ⟨k, hk⟩ : ∃ k, vn c = k := ⟨_, rfl⟩
      have hk3 : k < 3 := by rw [← hk]; unfold vn; omega
      have hck : (c.toNat : Int) = (k : Int) + 65 := by rw [← hk]; unfold vn; omega
      have hidx : ∀ W, (Instr.index 9 (.string (bt (c :: P))) (.int .i64 0)).run Tryd.prog W = .ok (.int .u8 ((k : Int) + 65)) W := fun W => by
        rw [run_index_string (h := Tryd.underlying9), dif_pos ⟨by omega, by rw [hps]; omega⟩, ← hck]; rfl
      have kc := hT.2 k hk3
      have hVk := hV k
      have hRl : P.length + 1 ≤ R.length := by omega
      have hbs := hT.1
      have HT := Lib.hid hT
      have HV := Lib.hid hV
      have HP := Lib.hid hP
      have HK := Lib.hid hk
      clear hT hV hP hk hck
      by_cases hown : V k = []
      · have hye : (bt (V k)).toList.isEmpty = true := by rw [bt_empty, hown]; rfl
        have hopen : fitE R (c :: P) V ↔ ∃ n, 1 ≤ n ∧ n + P.length ≤ R.length ∧ fitE (R.drop n) P (updV V k (R.take n)) := by
          have := fitE_open (R := R) (P := P) (V := V) (c := c) (by rw [HK.out]; exact hown)
          rwa [HK.out] at this
        have HOP := Lib.hid hopen
        have HO := Lib.hid hown
        clear hopen hown
        generalize bt (V k) = y at *
        go_enter Tryd.func130, Tryd.ntmps130
        go_wp2_with fail
        go_loopw [10] (fun s10 wr => ∃ n : Nat, 1 ≤ n ∧ n + P.length ≤ R.length + 1 ∧ s10 = .int .i64 (n : Int) ∧ NoFit (fun n => fitE (R.drop n) P (updV V k (R.take n))) n ∧ Below w.heap.size w wr) (fun s10 _ => R.length + 1 - (intOf s10).toNat)
        case atStart => exact ⟨1, Nat.le_refl _, by omega, rfl, fun j a b => by omega, Below.refl _ _⟩
        case round =>
          obtain ⟨n, hn1, hn2, rfl, hno, hB⟩ := hrel
          have HNO := Lib.hid hno
          have hTr := HT.out.past hB
          have hbr := hTr.1
          have hBz := hB.size
          clear hno
          by_cases hle : n + P.length ≤ R.length
          · have hs1 := fun W => bt_to R n (by omega) W
            have hs2 := fun W => bt_from R n (by omega) W
            have hnews : ∀ j u, [Value.string (bt (V 0)), .string (bt (V 1)), .string (bt (V 2))][j]? = some u → ∀ W : World, Three W b V → W.cell? ((⟨b, 0, none⟩ : Addr).add j) = some u := fun j u hu W hW => by
              have hj : j < 3 := (List.getElem?_eq_some_iff.1 hu).1
              rw [Addr.add_lit, Nat.zero_add, hW.2 j hj]
              have hj' : j = 0 ∨ j = 1 ∨ j = 2 := by omega
              rcases hj' with rfl | rfl | rfl <;> exact hu
            have HN := Lib.hid hnews
            have HTR := Lib.hid hTr
            clear hnews hTr
            go_wp2_with (at_builtin; refine wpList_append_own _ rfl _ _ 22 rfl wr.heap.size 9 i0 (.string ⟨#[]⟩) 1 16 Tryd.underlying22 hi hz0 hz1 hz2 rfl (by decide) _ 0 [] rfl (own_empty wr 9) ⟨b, 0, none⟩ 3 cap [.string (bt (V 0)), .string (bt (V 1)), .string (bt (V 2))] rfl rfl (fun j u hu => HN.out j u hu _ (HTR.out.past (Below.new wr _))) (by intro u hu; simp at hu; rcases hu with rfl | rfl | rfl <;> rfl) (by unfold maxLen; omega) (by omega) (by simp) ?_; intro v' w1 hown' hgrow hnil; obtain ⟨g', cap', rfl, hgb, hgl, hgc⟩ := own_blk hown'; have kk : w1.cell? ⟨g', k, none⟩ = some ([Value.string (bt (V 0)), .string (bt (V 1)), .string (bt (V 2))].getD k undef) := (by rw [hown'.cellAt k (by omega)]; have hk' : k = 0 ∨ k = 1 ∨ k = 2 := (by omega); rcases hk' with rfl | rfl | rfl <;> rfl); have kf : w1.frozen? ⟨g', k, none⟩ = false := hown'.frozenAt k)
            have hbw : Below wr.heap.size wr w1 := (Below.new wr _).grown hgrow (by simp) (fun q hq => by cases hq; exact Nat.le_refl _)
            obtain ⟨HHOWN⟩ : Nonempty (Hid (w1.ownsRow wr.heap.size 9 1 (.slice (some ⟨g', 0, none⟩) 3 cap') 3 [.string (bt (V 0)), .string (bt (V 1)), .string (bt (V 2))])) := ⟨Lib.hid hown'⟩
            have hT3 := three_set (l := R.take n) hk3 HHOWN.out
            have hbt : Below wr.heap.size wr (w1.setCell ⟨g', k, none⟩ (.string (bt (R.take n)))) := hbw.setCell (by show wr.heap.size ≤ g'; exact hgb) _
            obtain ⟨w2, hw2⟩ : ∃ w2, w1.setCell ⟨g', k, none⟩ (.string (bt (R.take n))) = w2 := ⟨_, rfl⟩
            rw [hw2] at hT3 hbt ⊢
            have CI := l10Fit_any P (R.drop n) (updV V k (R.take n)) g' cap' w2.drew HP.out.tail (by omega) (by rw [List.length_drop]; omega) (fun j => by
              by_cases e : j = k
              · rw [e, updV_at, List.length_take]; omega
              · rw [updV_ne _ _ e]; exact HV.out j) (hT3.past (Below.refl _ _).drew)
            have HCI := Lib.hid CI
            clear CI hT3 hw2 hown' hgrow hnil
            refine wp_region_held_drew (S := fun _ => True) (by kernel_rfl) trivial (fun hH => ?_)
            refine wpAnyH_take (i := 0) (v := ?_) rfl (by kernel_rfl) (by kernel_rfl) (by kernel_rfl) (fun _ _ _ h => h) (Or.inl ⟨by rfl, ?_⟩) hH ?_
            rotate_left 1
            · intro w hSw; skip; go_simp <;> with_reducible rfl
            try simp only [List.getElem_toArray, List.getElem_cons_succ, List.getElem_cons_zero, Act.put, List.setIfInBounds_toArray, List.set_cons_zero, List.set_cons_succ]
            refine wpAnyH_take (i := 1) (v := ?_) rfl (by kernel_rfl) (by kernel_rfl) (by kernel_rfl) (fun _ _ _ h => h) (Or.inl ⟨by rfl, ?_⟩) hH ?_
            rotate_left 1
            · intro w hSw; skip; go_simp <;> with_reducible rfl
            try simp only [List.getElem_toArray, List.getElem_cons_succ, List.getElem_cons_zero, Act.put, List.setIfInBounds_toArray, List.set_cons_zero, List.set_cons_succ]
            refine wpAnyH_take (i := 2) (v := ?_) rfl (by kernel_rfl) (by kernel_rfl) (by kernel_rfl) (fun _ _ _ h => h) (Or.inl ⟨by rfl, ?_⟩) hH ?_
            rotate_left 1
            · intro w hSw; skip; go_simp <;> with_reducible rfl
            try simp only [List.getElem_toArray, List.getElem_cons_succ, List.getElem_cons_zero, Act.put, List.setIfInBounds_toArray, List.set_cons_zero, List.set_cons_succ]
            refine wpAnyH_take (i := 3) (v := ?_) rfl (by kernel_rfl) (by kernel_rfl) (by kernel_rfl) (fun _ _ _ h => h) (Or.inl ⟨by rfl, ?_⟩) hH ?_
            rotate_left 1
            · intro w hSw; skip; go_simp <;> with_reducible rfl
            try simp only [List.getElem_toArray, List.getElem_cons_succ, List.getElem_cons_zero, Act.put, List.setIfInBounds_toArray, List.set_cons_zero, List.set_cons_succ]
            refine wpAnyH_take (i := 4) (v := ?_) rfl (by kernel_rfl) (by kernel_rfl) (by kernel_rfl) (fun _ _ _ h => h) (Or.inl ⟨by rfl, ?_⟩) hH ?_
            rotate_left 1
            · intro w hSw; skip; go_simp <;> with_reducible rfl
            try simp only [List.getElem_toArray, List.getElem_cons_succ, List.getElem_cons_zero, Act.put, List.setIfInBounds_toArray, List.set_cons_zero, List.set_cons_succ]
            refine wpAnyH_take (i := 5) (v := ?_) rfl (by kernel_rfl) (by kernel_rfl) (by kernel_rfl) (fun _ _ _ h => h) (Or.inl ⟨by rfl, ?_⟩) hH ?_
            rotate_left 1
            · intro w hSw; skip; go_simp <;> with_reducible rfl
            try simp only [List.getElem_toArray, List.getElem_cons_succ, List.getElem_cons_zero, Act.put, List.setIfInBounds_toArray, List.set_cons_zero, List.set_cons_succ]
            refine wpAnyH_ready (rs := [6]) (by kernel_rfl) (by simp) ?_
            refine AllReadyH.cons rfl (fun K hK => ?_) AllReadyH.nil
            go_simp
            refine HCI.out.mono ?_
            rintro e w3 ⟨⟨v3, t, rfl, ht⟩, b3⟩
            have b4 : Below wr.heap.size wr w3 := (hbt.drew).then b3
            have HTT := Lib.hid ht
            clear ht
            go_wp2_with fail
            refine hK.out _ _ trivial (fun _ => ?_)
            clear hK K
            try simp only [List.getElem_toArray, List.getElem_cons_succ, List.getElem_cons_zero, Act.put, List.setIfInBounds_toArray, List.set_cons_zero, List.set_cons_succ]
            refine wpAnyH_take (i := 7) (v := ?_) rfl (by kernel_rfl) (by kernel_rfl) (by kernel_rfl) (fun _ _ _ h => h) (Or.inl ⟨by rfl, ?_⟩) hH ?_
            rotate_left 1
            · intro w hSw; skip; go_simp <;> with_reducible rfl
            try simp only [List.getElem_toArray, List.getElem_cons_succ, List.getElem_cons_zero, Act.put, List.setIfInBounds_toArray, List.set_cons_zero, List.set_cons_succ]
            refine wpAnyH_take (i := 8) (v := ?_) rfl (by kernel_rfl) (by kernel_rfl) (by kernel_rfl) (fun _ _ _ h => h) (Or.inl ⟨by rfl, ?_⟩) hH ?_
            rotate_left 1
            · intro w hSw; skip; go_simp <;> with_reducible rfl
            try simp only [List.getElem_toArray, List.getElem_cons_succ, List.getElem_cons_zero, Act.put, List.setIfInBounds_toArray, List.set_cons_zero, List.set_cons_succ]
            refine wpAnyH_take (i := 9) (v := ?_) rfl (by kernel_rfl) (by kernel_rfl) (by kernel_rfl) (fun _ _ _ h => h) (Or.inl ⟨by rfl, ?_⟩) hH ?_
            rotate_left 1
            · intro w hSw; skip; go_simp <;> with_reducible rfl
            try simp only [List.getElem_toArray, List.getElem_cons_succ, List.getElem_cons_zero, Act.put, List.setIfInBounds_toArray, List.set_cons_zero, List.set_cons_succ]
            refine wpAnyH_take (i := 10) (v := ?_) rfl (by kernel_rfl) (by kernel_rfl) (by kernel_rfl) (fun _ _ _ h => h) (Or.inl ⟨by rfl, ?_⟩) hH ?_
            rotate_left 1
            · intro w hSw; skip; go_simp <;> with_reducible rfl
            try simp only [List.getElem_toArray, List.getElem_cons_succ, List.getElem_cons_zero, Act.put, List.setIfInBounds_toArray, List.set_cons_zero, List.set_cons_succ]
            refine wpAnyH_take (i := 11) (v := ?_) rfl (by kernel_rfl) (by kernel_rfl) (by kernel_rfl) (fun _ _ _ h => h) (Or.inl ⟨by rfl, ?_⟩) hH ?_
            rotate_left 1
            · intro w hSw; skip; go_simp <;> with_reducible rfl
            try simp only [List.getElem_toArray, List.getElem_cons_succ, List.getElem_cons_zero, Act.put, List.setIfInBounds_toArray, List.set_cons_zero, List.set_cons_succ]
            refine wpAnyH_done (by kernel_rfl) ?_ _
            cases t with
            | true =>
              have hend : ∀ v, FitAns R (c :: P) V (.returned (.tuple #[v, .bool true])) := fun v => ⟨_, _, rfl, ⟨fun _ => HOP.out.2 ⟨n, hn1, hle, HTT.out.1 rfl⟩, fun _ => rfl⟩⟩
              have HE := Lib.hid hend
              clear hend
              go_wp2_with fail
              go_ret2
              exact ⟨HE.out _, hB.then b4⟩
            | false =>
              go_wp2_with fail
              go_roundw
              case rel =>
                have hno2 : NoFit (fun n => fitE (R.drop n) P (updV V k (R.take n))) (n + 1) := fun j a b => by
                  by_cases e : j < n
                  · exact HNO.out j a e
                  · rw [show j = n by omega]
                    intro q
                    have h5 := HTT.out.2 q
                    cases h5
                exact ⟨n + 1, by omega, by omega, by go_num, hno2, hB.then b4⟩
              case measure => simp [intOf]; omega
          · have hend : FitAns R (c :: P) V (.returned (.tuple #[.slice none 0 0, .bool false])) := ⟨_, _, rfl, by
              constructor
              · intro e; cases e
              · intro e
                obtain ⟨m, h1, h2, h3⟩ := HOP.out.1 e
                exact absurd h3 (HNO.out m h1 (by omega))⟩
            have HE := Lib.hid hend
            clear hend
            go_wp2_with fail
            go_ret2
            exact ⟨HE.out, hB⟩
      · obtain ⟨m, hm⟩ : ∃ m, (V k).length = m := ⟨_, rfl⟩
        have hys : (bt (V k)).size = m := by rw [bt_size, hm]
        have hm1 : 1 ≤ m := by
          rw [← hm]
          rcases Nat.eq_zero_or_pos (V k).length with e | e
          · exact absurd (List.length_eq_zero_iff.1 e) hown
          · exact e
        have hye : (bt (V k)).toList.isEmpty = false := by
          rw [bt_empty]
          cases e : V k with
          | nil => exact absurd e hown
          | cons a t => rfl
        have htold : fitE R (c :: P) V ↔ (R.take m = V k ∧ fitE (R.drop m) P V) := by
          have := fitE_told (R := R) (P := P) (V := V) (c := c) (by rw [HK.out]; exact hown)
          rwa [HK.out, hm] at this
        have hm60 : m ≤ 60 := by omega
        have HTO := Lib.hid htold
        have HM := Lib.hid hm
        clear htold hown hm
        by_cases hlt : R.length < m
        · have hend : FitAns R (c :: P) V (.returned (.tuple #[.slice none 0 0, .bool false])) := ⟨_, _, rfl, by
            constructor
            · intro e; cases e
            · intro e
              have h1 := congrArg List.length (HTO.out.1 e).1
              rw [List.length_take, HM.out] at h1
              omega⟩
          have HE := Lib.hid hend
          clear hend
          generalize bt (V k) = y at *
          go_enter Tryd.func130, Tryd.ntmps130
          go_wp2_with fail
          go_ret2
          exact ⟨HE.out, Below.refl _ _⟩
        · have hs1 := fun W => bt_to R m (by omega) W
          have hs2 := fun W => bt_from R m (by omega) W
          by_cases heq : R.take m = V k
          · have hq : ((bt (R.take m)).toList == (bt (V k)).toList) = true := by rw [heq]; exact beq_self_eq_true _
            have CI := l10Fit_any P (R.drop m) V b cap w.drew HP.out.tail (by omega) (by rw [List.length_drop]; omega) HV.out (HT.out.past (Below.refl _ _).drew)
            have HCI := Lib.hid CI
            have HEQ := Lib.hid heq
            clear CI heq
            generalize bt (V k) = y at *
            generalize bt (R.take m) = z at *
            go_enter Tryd.func130, Tryd.ntmps130
            go_wp2_with fail
            refine wp_region_held_drew (S := fun _ => True) (by kernel_rfl) trivial (fun hH => ?_)
            refine wpAnyH_take (i := 0) (v := ?_) rfl (by kernel_rfl) (by kernel_rfl) (by kernel_rfl) (fun _ _ _ h => h) (Or.inl ⟨by rfl, ?_⟩) hH ?_
            rotate_left 1
            · intro w hSw; skip; go_simp <;> with_reducible rfl
            try simp only [List.getElem_toArray, List.getElem_cons_succ, List.getElem_cons_zero, Act.put, List.setIfInBounds_toArray, List.set_cons_zero, List.set_cons_succ]
            refine wpAnyH_take (i := 1) (v := ?_) rfl (by kernel_rfl) (by kernel_rfl) (by kernel_rfl) (fun _ _ _ h => h) (Or.inl ⟨by rfl, ?_⟩) hH ?_
            rotate_left 1
            · intro w hSw; skip; go_simp <;> with_reducible rfl
            try simp only [List.getElem_toArray, List.getElem_cons_succ, List.getElem_cons_zero, Act.put, List.setIfInBounds_toArray, List.set_cons_zero, List.set_cons_succ]
            refine wpAnyH_take (i := 2) (v := ?_) rfl (by kernel_rfl) (by kernel_rfl) (by kernel_rfl) (fun _ _ _ h => h) (Or.inl ⟨by rfl, ?_⟩) hH ?_
            rotate_left 1
            · intro w hSw; skip; go_simp <;> with_reducible rfl
            try simp only [List.getElem_toArray, List.getElem_cons_succ, List.getElem_cons_zero, Act.put, List.setIfInBounds_toArray, List.set_cons_zero, List.set_cons_succ]
            refine wpAnyH_take (i := 3) (v := ?_) rfl (by kernel_rfl) (by kernel_rfl) (by kernel_rfl) (fun _ _ _ h => h) (Or.inl ⟨by rfl, ?_⟩) hH ?_
            rotate_left 1
            · intro w hSw; skip; go_simp <;> with_reducible rfl
            try simp only [List.getElem_toArray, List.getElem_cons_succ, List.getElem_cons_zero, Act.put, List.setIfInBounds_toArray, List.set_cons_zero, List.set_cons_succ]
            refine wpAnyH_take (i := 4) (v := ?_) rfl (by kernel_rfl) (by kernel_rfl) (by kernel_rfl) (fun _ _ _ h => h) (Or.inl ⟨by rfl, ?_⟩) hH ?_
            rotate_left 1
            · intro w hSw; skip; go_simp <;> with_reducible rfl
            try simp only [List.getElem_toArray, List.getElem_cons_succ, List.getElem_cons_zero, Act.put, List.setIfInBounds_toArray, List.set_cons_zero, List.set_cons_succ]
            refine wpAnyH_take (i := 5) (v := ?_) rfl (by kernel_rfl) (by kernel_rfl) (by kernel_rfl) (fun _ _ _ h => h) (Or.inl ⟨by rfl, ?_⟩) hH ?_
            rotate_left 1
            · intro w hSw; skip; go_simp <;> with_reducible rfl
            try simp only [List.getElem_toArray, List.getElem_cons_succ, List.getElem_cons_zero, Act.put, List.setIfInBounds_toArray, List.set_cons_zero, List.set_cons_succ]
            refine wpAnyH_take (i := 6) (v := ?_) rfl (by kernel_rfl) (by kernel_rfl) (by kernel_rfl) (fun _ _ _ h => h) (Or.inl ⟨by rfl, ?_⟩) hH ?_
            rotate_left 1
            · intro w hSw; skip; go_simp <;> with_reducible rfl
            try simp only [List.getElem_toArray, List.getElem_cons_succ, List.getElem_cons_zero, Act.put, List.setIfInBounds_toArray, List.set_cons_zero, List.set_cons_succ]
            refine wpAnyH_ready (rs := [7]) (by kernel_rfl) (by simp) ?_
            refine AllReadyH.cons rfl (fun K hK => ?_) AllReadyH.nil
            go_simp
            refine HCI.out.mono ?_
            rintro e w3 ⟨⟨v3, t, rfl, ht⟩, b3⟩
            have b4 : Below w.heap.size w w3 := (Below.refl w.heap.size w).drew.then b3
            have hend : FitAns R (c :: P) V (.returned (.tuple #[v3, .bool t])) := ⟨_, _, rfl, ht.trans ⟨fun q => HTO.out.2 ⟨HEQ.out, q⟩, fun q => (HTO.out.1 q).2⟩⟩
            have HE := Lib.hid hend
            clear ht hend
            go_wp2_with fail
            refine hK.out _ _ trivial (fun _ => ?_)
            clear hK K
            try simp only [List.getElem_toArray, List.getElem_cons_succ, List.getElem_cons_zero, Act.put, List.setIfInBounds_toArray, List.set_cons_zero, List.set_cons_succ]
            refine wpAnyH_take (i := 8) (v := ?_) rfl (by kernel_rfl) (by kernel_rfl) (by kernel_rfl) (fun _ _ _ h => h) (Or.inl ⟨by rfl, ?_⟩) hH ?_
            rotate_left 1
            · intro w hSw; skip; go_simp <;> with_reducible rfl
            try simp only [List.getElem_toArray, List.getElem_cons_succ, List.getElem_cons_zero, Act.put, List.setIfInBounds_toArray, List.set_cons_zero, List.set_cons_succ]
            refine wpAnyH_take (i := 9) (v := ?_) rfl (by kernel_rfl) (by kernel_rfl) (by kernel_rfl) (fun _ _ _ h => h) (Or.inl ⟨by rfl, ?_⟩) hH ?_
            rotate_left 1
            · intro w hSw; skip; go_simp <;> with_reducible rfl
            try simp only [List.getElem_toArray, List.getElem_cons_succ, List.getElem_cons_zero, Act.put, List.setIfInBounds_toArray, List.set_cons_zero, List.set_cons_succ]
            refine wpAnyH_take (i := 10) (v := ?_) rfl (by kernel_rfl) (by kernel_rfl) (by kernel_rfl) (fun _ _ _ h => h) (Or.inl ⟨by rfl, ?_⟩) hH ?_
            rotate_left 1
            · intro w hSw; skip; go_simp <;> with_reducible rfl
            try simp only [List.getElem_toArray, List.getElem_cons_succ, List.getElem_cons_zero, Act.put, List.setIfInBounds_toArray, List.set_cons_zero, List.set_cons_succ]
            refine wpAnyH_take (i := 11) (v := ?_) rfl (by kernel_rfl) (by kernel_rfl) (by kernel_rfl) (fun _ _ _ h => h) (Or.inl ⟨by rfl, ?_⟩) hH ?_
            rotate_left 1
            · intro w hSw; skip; go_simp <;> with_reducible rfl
            try simp only [List.getElem_toArray, List.getElem_cons_succ, List.getElem_cons_zero, Act.put, List.setIfInBounds_toArray, List.set_cons_zero, List.set_cons_succ]
            refine wpAnyH_done (by kernel_rfl) ?_ _
            go_wp2_with fail
            go_ret2
            exact ⟨HE.out, b4⟩
          · have hq : ((bt (R.take m)).toList == (bt (V k)).toList) = false := bt_eq_no heq
            have hend : FitAns R (c :: P) V (.returned (.tuple #[.slice none 0 0, .bool false])) := ⟨_, _, rfl, by
              constructor
              · intro e; cases e
              · intro e; exact absurd (HTO.out.1 e).1 heq⟩
            have HE := Lib.hid hend
            clear hend heq
            generalize bt (V k) = y at *
            generalize bt (R.take m) = z at *
            go_enter Tryd.func130, Tryd.ntmps130
            go_wp2_with fail
            go_ret2
            exact ⟨HE.out, Below.refl _ _⟩

end Go.Proofs.YtfipbnognjepkaaDoor
