/- Special factors: the program. -/
import Derived.Test.YtbhgghajbdlfkabGreatSp
import Derived.Test.YtbhgghajbdlfkabGreatFactorsI
import Derived.Shelf.SlicesE.DeleteFunc
import Derived.Sort.OwnSorted
import Derived.Deep.AppendLies
namespace Go.Proofs.YtbhgghajbdlfkabGreat
set_option linter.unusedVariables false
set_option linter.unusedSimpArgs false
open Go.RowKit Go.Sort Go.Shelf

/-- A test as it lies: the function value, its two captured boxes, the word and what joins. -/
def jfn (r : Bool) : Nat := if r then 130 else 131
def TestAt (x : ByteArray) (w : World) (v : Value) (r : Bool) : Prop :=
  ∃ b1 b2, v = .func (.func 161) #[] #[.pointer (some ⟨b1, 0, none⟩), .pointer (some ⟨b2, 0, none⟩)] ∧ b1 < w.heap.size ∧ b2 < w.heap.size ∧
    w.cell? ⟨b1, 0, none⟩ = some (.string x) ∧ w.cell? ⟨b2, 0, none⟩ = some (.func (.func (jfn r)) #[] #[])
theorem TestAt.below {x : ByteArray} {w w' : World} {v : Value} {r : Bool} (h : TestAt x w v r) (b : Below w.heap.size w w') : TestAt x w' v r := by
  obtain ⟨b1, b2, e, l1, l2, k1, k2⟩ := h
  have hz := b.size
  exact ⟨b1, b2, e, by omega, by omega, ((bcell b).1 b1 0 l1).trans k1, ((bcell b).1 b2 0 l2).trans k2⟩

theorem several_any (x f : ByteArray) (r : Bool) (b1 b2 : Nat) (w : World) (hx : x.size ≤ 60) (hf : f.size ≤ 60) (k1 : w.cell? ⟨b1, 0, none⟩ = some (.string x)) (k2 : w.cell? ⟨b2, 0, none⟩ = some (.func (.func (jfn r)) #[] #[])) (hM : MaxOK5 w) :
    Calls Tryz.prog 161 #[.string f, .pointer (some ⟨b1, 0, none⟩), .pointer (some ⟨b2, 0, none⟩)] w fun e w' => e = .returned (.bool (spB x r f)) ∧ ∃ q, w' = w.drewN q := by
  cases r
  · exact severalL_any x f b1 b2 w hx hf k1 k2 hM
  · exact severalR_any x f b1 b2 w hx hf k1 k2 hM

set_option maxRecDepth 100000 in
theorem passes_any (x f : ByteArray) (r : Bool) (b b1 b2 : Nat) (w : World) (hx : x.size ≤ 60) (hf : f.size ≤ 60)
    (k0 : w.cell? ⟨b, 0, none⟩ = some (.func (.func 161) #[] #[.pointer (some ⟨b1, 0, none⟩), .pointer (some ⟨b2, 0, none⟩)]))
    (k1 : w.cell? ⟨b1, 0, none⟩ = some (.string x)) (k2 : w.cell? ⟨b2, 0, none⟩ = some (.func (.func (jfn r)) #[] #[])) (hM : MaxOK5 w) :
    Calls Tryz.prog 128 #[.string f, .pointer (some ⟨b, 0, none⟩)] w fun e w' => e = .returned (.bool (!spB x r f)) ∧ ∃ q, w' = w.drewN q := by
  have HS := Lib.hid (several_any x f r b1 b2 w hx hf k1 k2 hM)
  generalize spB x r f = R at *
  clear k1 k2 hM
  go_enter Tryz.func128, Tryz.ntmps128
  go_wp2_with (go_at_call 161; refine HS.out.mono ?_; rintro e w1 ⟨rfl, q, rfl⟩)
  go_ret
  exact ⟨rfl, q, rfl⟩

/-- Words of at most 60 letters. -/
abbrev W60 := { s : ByteArray // s.size ≤ 60 }
instance : Inhabited W60 := ⟨⟨ByteArray.empty, Nat.zero_le _⟩⟩
def encW60 (s : W60) : Value := .string s.1

theorem heap_put {α : Type} [Inhabited α] (enc : α → Value) {w : World} {g q : Nat} {cur : Array Value} {e : TypeId} {fr : Nat × Nat} (d : Array α) (hb : w.heap[g]? = some (.cells cur e fr)) :
    (putRow enc (Sort.ahead w q) g 0 d).heap[g]? = some (.cells (putCells enc 0 d cur) e fr) := by
  simp [putRow, mapBlock, Sort.ahead, Array.getElem?_modify, hb, onCells]
theorem grown_put {α : Type} [Inhabited α] (enc : α → Value) {w : World} {g q : Nat} (d : Array α) : w.grownBy (putRow enc (Sort.ahead w q) g 0 d) (some g) := by
  refine ⟨rfl, rfl, rfl, by simp [putRow, mapBlock, Sort.ahead], fun k hk hne => ?_⟩
  have : g ≠ k := fun e => hne (by rw [e])
  simp [putRow, mapBlock, Sort.ahead, Array.getElem?_modify, this]
theorem grown_sortWorld {α : Type} [Inhabited α] (enc : α → Value) {w : World} {g q : Nat} (d : Array α) (os : Array Obj) : w.grownBy (sortWorld enc w g 0 q d os) (some g) := by
  refine ⟨rfl, rfl, rfl, ?_, fun k hk hne => ?_⟩
  · unfold sortWorld
    simp [putRow, mapBlock, Sort.ahead]
  · unfold sortWorld
    rw [heap_grow_old _ _ (by simpa [putRow, mapBlock, Sort.ahead] using hk)]
    exact (grown_put enc (q := q) d).block k hk hne
theorem take_put {α : Type} [Inhabited α] (enc : α → Value) (cur : Array Value) (ts : List α) (h : ts.length ≤ cur.size) : (putCells enc 0 ts.toArray cur).toList.take ts.length = ts.map enc := by
  apply List.ext_getElem?
  intro j
  by_cases hj : j < ts.length
  · rw [List.getElem?_take_of_lt hj, Array.getElem?_toList]
    simp [putCells, hj, show j < cur.size by omega]
  · rw [List.getElem?_take_eq_none (by omega), List.getElem?_eq_none (by simp; omega)]

def toW (L : List ByteArray) (h : ∀ z ∈ L, z.size ≤ 60) : List W60 := L.pmap (fun z k => ⟨z, k⟩) h
theorem toW_len (L : List ByteArray) (h : ∀ z ∈ L, z.size ≤ 60) : (toW L h).length = L.length := by simp [toW]
theorem toW_map (L : List ByteArray) (h : ∀ z ∈ L, z.size ≤ 60) : (toW L h).map encW60 = L.map Value.string := by
  unfold toW encW60
  rw [List.map_pmap]
  simp
theorem toW_filter (q : ByteArray → Bool) : ∀ (L : List ByteArray) (h : ∀ z ∈ L, z.size ≤ 60), ((toW L h).filter fun s => !(!q s.1)).map encW60 = (L.filter q).map Value.string
  | [], _ => rfl
  | a :: r, h => by
    have ih := toW_filter q r (fun z hz => h z (List.mem_cons_of_mem _ hz))
    have : toW (a :: r) h = ⟨a, h a (List.mem_cons_self ..)⟩ :: toW r (fun z hz => h z (List.mem_cons_of_mem _ hz)) := rfl
    rw [this, List.filter_cons, List.filter_cons]
    simp only [Bool.not_not] at ih ⊢
    by_cases e : q a = true
    · rw [if_pos e, if_pos e, List.map_cons, List.map_cons, ih]
      rfl
    · rw [if_neg e, if_neg e, ih]
theorem toW_filter_len (q : ByteArray → Bool) (L : List ByteArray) (h : ∀ z ∈ L, z.size ≤ 60) : ((toW L h).filter fun s => !(!q s.1)).length = (L.filter q).length := by
  have := congrArg List.length (toW_filter q L h)
  simpa using this

set_option maxRecDepth 100000 in
theorem delete_empty (a : Option Addr) (c : Nat) (fv : Value) (w : World) :
    Calls Tryz.prog 127 #[.slice a 0 c, fv] w fun e w' => e = .returned (.slice a 0 c) ∧ w' = w := by
  go_enter Tryz.func127, Tryz.ntmps127
  go_wp2_with (go_at_call 160; refine (Tryz.slices_IndexFunc_empty (α := W60) a c fv _).mono ?_; rintro e w1 ⟨rfl, rfl⟩)
  go_ret
  exact ⟨rfl, rfl⟩

theorem deleteTest (x : ByteArray) (r : Bool) (L : List ByteArray) (hx : L ≠ [] → x.size ≤ 60) (hL : ∀ z ∈ L, z.size ≤ 60) (hl : L.length ≤ 100) (B b b1 b2 : Nat) (v : Value) (w : World) (hv : OwnS w B v L)
    (k0 : w.cell? ⟨b, 0, none⟩ = some (.func (.func 161) #[] #[.pointer (some ⟨b1, 0, none⟩), .pointer (some ⟨b2, 0, none⟩)]))
    (k1 : w.cell? ⟨b1, 0, none⟩ = some (.string x)) (k2 : w.cell? ⟨b2, 0, none⟩ = some (.func (.func (jfn r)) #[] #[])) (hM : MaxOK5 w)
    (n0 : v.ownBlock ≠ some b) (n1 : v.ownBlock ≠ some b1) (n2 : v.ownBlock ≠ some b2) (n3 : v.ownBlock ≠ some 0) :
    Calls Tryz.prog 127 #[v, .func (.func 128) #[] #[.pointer (some ⟨b, 0, none⟩)]] w fun e w' => ∃ v', e = .returned v' ∧ OwnS w' B v' (L.filter (spB x r)) ∧ w.grownBy w' v.ownBlock ∧ (v'.ownBlock = v.ownBlock) := by
  by_cases h0 : L = []
  · subst h0
    obtain ⟨a1, c1, rfl⟩ := hv.empty
    refine (delete_empty a1 c1 _ w).mono ?_
    rintro e w' ⟨rfl, rfl⟩
    exact ⟨_, rfl, hv, ⟨rfl, rfl, rfl, Nat.le_refl _, fun _ _ _ => rfl⟩, rfl⟩
  · have hx := hx h0
    have hne : 0 < L.length := List.length_pos_iff.2 h0
    obtain ⟨hll, ⟨rfl, hz⟩ | ⟨g, cap, cur, rfl, hB, hh, hn, hcap, hcs, htk⟩⟩ := hv
    · omega
    · have hgl : g < w.heap.size := (Array.getElem?_eq_some_iff.1 hh).1
      have hlt0 := World.block_lt_of_cell? w _ k0
      have hlt1 := World.block_lt_of_cell? w _ k1
      have hlt2 := World.block_lt_of_cell? w _ k2
      have hltM := hM.lt
      -- the test in every world that differs in the row's block alone
      have key : ∀ (W : World) (z : W60), w.grownBy W (some g) → FnGives Tryz.prog 128 #[.pointer (some ⟨b, 0, none⟩)] #[encW60 z] (.bool (!spB x r z.1)) W := by
        intro W z hg
        have hcell : ∀ q, q < w.heap.size → (Value.slice (some ⟨g, 0, none⟩) L.length cap).ownBlock ≠ some q → W.cell? ⟨q, 0, none⟩ = w.cell? ⟨q, 0, none⟩ := fun q h1 h2 =>
          hg.cell_far ⟨q, 0, none⟩ h1 (fun e => h2 e.symm)
        have hM2 : MaxOK5 W := by
          obtain ⟨mm, hm⟩ := hM
          exact ⟨mm, (hcell _ hltM n3).trans hm⟩
        exact passes_any x z.1 r b b1 b2 W hx z.2 ((hcell b hlt0 n0).trans k0) ((hcell b1 hlt1 n1).trans k1) ((hcell b2 hlt2 n2).trans k2) hM2
      have hdl : (toW L hL).toArray.size = L.length := by rw [List.size_toArray, toW_len]
      have hH : Holds encW60 w g 0 (toW L hL).toArray := by
        intro j hj
        have hj' : j < L.length := by omega
        have hj2 : j < (toW L hL).length := by rw [toW_len]; exact hj'
        refine ⟨?_, by simp [World.frozen?, hh]⟩
        have h1 : (cur.toList.take (L.length * 1))[j]? = (L.map Value.string)[j]? := by rw [htk]
        rw [List.getElem?_take_of_lt (by omega), ← toW_map L hL, List.getElem?_map, List.getElem?_eq_getElem hj2] at h1
        have h3 : w.cell? ⟨g, 0 + j, none⟩ = cur[j]? := by
          rw [Nat.zero_add]
          unfold World.cell?
          rw [show (⟨g, j, none⟩ : Addr).block = g from rfl, hh]
          rfl
        rw [h3, ← Array.getElem?_toList, h1, getElem!_pos (toW L hL).toArray j hj]
        rfl
      have := Tryz.slices_DeleteFunc encW60 (fun z => rfl) (fun z => !spB x r z.1) 128 #[.pointer (some ⟨b, 0, none⟩)] (enters_of Tryz.func128 (by kernel_rfl) rfl) ⟨⟨#[]⟩, Nat.zero_le _⟩ (fun W => Tryz.zeroValue9 W) g 0 cap (toW L hL).toArray w
        (fun W z hb => key W z ⟨hb.os, hb.tape, hb.output, hb.size, fun k hk _ => hb.block k hk⟩)
        (fun q os dk z _ => key _ z (grown_sortWorld encW60 dk os)) hH (by rw [hdl]; omega) (by rw [hdl]; exact hn)
      rw [hdl] at this
      refine this.mono ?_
      rintro e w' ⟨rfl, q, rfl⟩
      have hfl := toW_filter_len (spB x r) L hL
      have hfm := toW_filter (spB x r) L hL
      have hfle : (L.filter (spB x r)).length ≤ L.length := List.length_filter_le _ _
      have hltl : (toW L hL).toArray.toList = toW L hL := rfl
      rw [hltl]
      generalize hF : ((toW L hL).filter fun s => !(!spB x r s.1)) = F at *
      refine ⟨_, rfl, ?_, grown_put encW60 _, rfl⟩
      rw [hfl]
      refine ⟨by simp, .inr ⟨g, cap, _, rfl, hB, heap_put encW60 _ hh, by omega, hcap, by simp [putCells, hcs], ?_⟩⟩
      have hts := take_put encW60 cur (F ++ List.replicate (L.length - F.length) ⟨⟨#[]⟩, Nat.zero_le _⟩) (by rw [hcs]; simp; omega)
      have hNl : (F ++ List.replicate (L.length - F.length) (⟨⟨#[]⟩, Nat.zero_le _⟩ : W60)).length = L.length := by simp; omega
      rw [hNl] at hts
      have hlast : (F ++ List.replicate (L.length - F.length) (⟨⟨#[]⟩, Nat.zero_le _⟩ : W60)).take (L.filter (spB x r)).length = F := by
        rw [List.take_append_of_le_length (by omega), List.take_of_length_le (by omega)]
      have hstep : ∀ X : List Value, X.take (L.filter (spB x r)).length = (X.take L.length).take (L.filter (spB x r)).length := fun X => by rw [List.take_take, Nat.min_eq_left hfle]
      rw [hfl] at hts hlast
      rw [Nat.mul_one, hstep, hts, ← List.map_take, hlast, hfm]

end Go.Proofs.YtbhgghajbdlfkabGreat
