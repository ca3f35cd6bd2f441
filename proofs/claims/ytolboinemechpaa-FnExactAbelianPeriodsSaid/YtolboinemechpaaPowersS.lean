/- All powers of a word, and all overlaps: the model. -/
import Derived.Test.YtolboinemechpaaRows2
import Derived.Test.YtolboinemechpaaRepPlain
import Derived.Test.YtolboinemechpaaSq
namespace Go.Proofs.Ytolboinemechpaa
set_option linter.unusedVariables false
set_option linter.unusedSimpArgs false
open Go.RowKit

/-- One row of two numbers more: what the walk owes. -/
theorem rows_grown {W w3 : World} {base : Nat} {v v' : Value} {us : List Value} {L : List (List Int)} {i q : Int} {tmp : Obj}
    (own : W.ownsRow base 30 1 v us.length us) (rows : RowsIn W base us L) (hb : base ≤ W.heap.size)
    (hown' : w3.ownsRow base 30 1 v' (us.length + 1) (us ++ [.slice (some ⟨W.heap.size, 0, none⟩) 2 2]))
    (hgrow : ((W.alloc (.cells #[.int .i64 i, .int .i64 q] 2)).alloc tmp).grownBy w3 v.ownBlock) : OwnR w3 base v' (L ++ [[i, q]]) := by
  have hB : Below W.heap.size W ((W.alloc (.cells #[.int .i64 i, .int .i64 q] 2)).alloc tmp) := (Below.new _ _).alloc (by simp) _
  have r1 := rows.below hB
  have o1 : OwnI (W.alloc (.cells #[.int .i64 i, .int .i64 q] 2)) base (.slice (some ⟨W.heap.size, 0, none⟩) 2 2) [i, q] := own_base (World.ownsRow_lit W #[.int .i64 i, .int .i64 q] 2 (Nat.le_refl _) (by decide) (by simp)) hb
  have o2 := o1.below (Below.new _ tmp)
  have own2 := own_below own hB
  have r2 : RowsIn w3 base us L := r1.other hgrow fun j hj k hk c => own_apart (r1.2.1 j hj) own2 (by decide) hk c
  have o3 : OwnI w3 base (.slice (some ⟨W.heap.size, 0, none⟩) 2 2) [i, q] := own_other o2 hgrow fun k hk c => own_apart o2 own2 (by decide) hk c
  refine ⟨us ++ [.slice (some ⟨W.heap.size, 0, none⟩) 2 2], by rw [List.length_append]; exact hown', r2.snoc o3 (b := W.heap.size) (fun j hj k hk => (rows.lt j hj k hk).2) (fun k hk => ?_)⟩
  have : W.heap.size = k := Option.some.inj hk
  omega

theorem cell_new1 (W : World) (o : Obj) (v : Value) (t : TypeId) : ∀ j u, [v][j]? = some u → ((W.alloc o).alloc (.cells #[v] t)).cell? ((⟨W.heap.size + 1, 0, none⟩ : Addr).add j) = some u := by
  have := cell_new (W.alloc o) v t
  rwa [World.size_alloc] at this

theorem rowsN_tot (L : List (Nat × Nat)) : totR (rowsN L) = 2 * L.length := by
  induction L with
  | nil => rfl
  | cons p t ih =>
    have : totR (rowsN (p :: t)) = 2 + totR (rowsN t) := by simp [totR, rowsN]
    rw [this, ih, List.length_cons]
    omega
theorem powersR_len (x : ByteArray) (k : Int) : (powersR x k).1.length ≤ 3600 := by
  by_cases h : IsW x
  · by_cases hk : k < 2 ∨ 60 < k
    · rw [powersR_out h hk]; decide
    · obtain ⟨n, rfl⟩ := Int.eq_ofNat_of_zero_le (show 0 ≤ k by omega)
      rw [powersR_ok h hk]
      show (rowsN _).length ≤ 3600
      rw [rowsN_len]
      exact reps_short _ h.size
  · rw [powersR_bad h]; decide
theorem powersR_tot (x : ByteArray) (k : Int) : totR (powersR x k).1 ≤ 7200 := by
  by_cases h : IsW x
  · by_cases hk : k < 2 ∨ 60 < k
    · rw [powersR_out h hk]; decide
    · obtain ⟨n, rfl⟩ := Int.eq_ofNat_of_zero_le (show 0 ≤ k by omega)
      rw [powersR_ok h hk]
      have := reps_short (l := bl x) (eP n 0) h.size
      show totR (rowsN _) ≤ 7200
      rw [rowsN_tot]
      omega
  · rw [powersR_bad h]; decide
theorem overlapsR_len (x : ByteArray) : (overlapsR x).1.length ≤ 3600 := by
  by_cases h : IsW x
  · rw [overlapsR_ok h]
    show (rowsN _).length ≤ 3600
    rw [rowsN_len]
    exact reps_short _ h.size
  · rw [overlapsR_bad h]; decide
theorem overlapsR_tot (x : ByteArray) : totR (overlapsR x).1 ≤ 7200 := by
  by_cases h : IsW x
  · rw [overlapsR_ok h]
    have := reps_short (l := bl x) (eP 2 1) h.size
    show totR (rowsN _) ≤ 7200
    rw [rowsN_tot]
    omega
  · rw [overlapsR_bad h]; decide
def countPR (x : ByteArray) (k : Int) : Int × Int := (((powersR x k).1.length : Int), (powersR x k).2)

end Go.Proofs.Ytolboinemechpaa
