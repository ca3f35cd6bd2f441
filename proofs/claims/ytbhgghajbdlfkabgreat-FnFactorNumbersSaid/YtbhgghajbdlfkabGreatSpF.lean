/- Special factors: the program's functions. -/
import Derived.Test.YtbhgghajbdlfkabGreatSpI
import Derived.Deep.LoopGhost
import Derived.Laws.EntriesVeiled
namespace Go.Proofs.YtbhgghajbdlfkabGreat
set_option linter.unusedVariables false
set_option linter.unusedSimpArgs false
open Go.RowKit

def filtK (x : ByteArray) (rs : List Bool) (L : List ByteArray) : List ByteArray := rs.foldl (fun L r => L.filter (spB x r)) L
theorem filtK_snoc (x : ByteArray) (rs : List Bool) (r : Bool) (L : List ByteArray) : filtK x (rs ++ [r]) L = (filtK x rs L).filter (spB x r) := by unfold filtK; rw [List.foldl_append]; rfl
theorem mem_filtK {x : ByteArray} {z : ByteArray} : ∀ (rs : List Bool) (L : List ByteArray), z ∈ filtK x rs L → z ∈ L
  | [], _, h => h
  | r :: rs, L, h => (List.mem_filter.1 (mem_filtK rs (L.filter (spB x r)) h)).1
theorem filtK_nil (x : ByteArray) : ∀ rs : List Bool, filtK x rs [] = []
  | [] => rfl
  | r :: rs => filtK_nil x rs
theorem cell_of_heapF {W : World} {g : Nat} {cs : Array Value} {t : TypeId} (h : W.heap[g]? = some (.cells cs t)) (j : Nat) : W.cell? ⟨g, j, none⟩ = cs[j]? := by
  unfold World.cell?
  rw [show (⟨g, j, none⟩ : Addr).block = g from rfl, h]
  rfl
theorem filtK_len (x : ByteArray) : ∀ (rs : List Bool) (L : List ByteArray), (filtK x rs L).length ≤ L.length
  | [], _ => Nat.le_refl _
  | r :: rs, L => Nat.le_trans (filtK_len x rs (L.filter (spB x r))) (List.length_filter_le _ _)

theorem factorsR_len60 (x : ByteArray) (m : Int) : (factorsR x m).1.length ≤ 61 := by
  unfold factorsR
  split
  · decide
  · rename_i h
    split
    · decide
    · have h1 := (Classical.not_not.1 h).size
      have h2 := facK_len x m.toNat (x.size + 1 - m.toNat)
      show (facK x m.toNat (x.size + 1 - m.toNat)).length ≤ 61
      omega
theorem factorsR_sizes (x : ByteArray) (m : Int) : ∀ z ∈ (factorsR x m).1, z.size ≤ 60 := by
  unfold factorsR
  split
  · intro z hz; simp at hz
  · rename_i h
    split
    · intro z hz; simp at hz
    · intro z hz
      have h1 := (Classical.not_not.1 h).size
      obtain ⟨i, _, rfl⟩ := (mem_facK x _ z _).1 hz
      simp
      omega

set_option maxRecDepth 100000 in
set_option maxHeartbeats 2000000 in
theorem specialFactors_any (x : ByteArray) (m : Int) (rs : List Bool) (g c : Nat) (us : List Value) (w : World) (sx : x.size ≤ maxLen) (wm : (Lit.int .i64 m).wf = true) (hn : rs.length ≤ 2) (hul : us.length = rs.length)
    (hg : g < w.heap.size) (hc : rs.length ≤ c) (hcell : ∀ j (hj : j < us.length), w.cell? ⟨g, j, none⟩ = some (us[j]'hj)) (ht : ∀ j (hj : j < us.length) (hj2 : j < rs.length), TestAt x w (us[j]'hj) (rs[j]'hj2)) (hM : MaxOK5 w) (hx : (factorsR x m).1 ≠ [] → x.size ≤ 60) :
    Calls Tryz.prog 71 #[.string x, .int .i64 m, .slice (some ⟨g, 0, none⟩) rs.length c] w (RetS (filtK x rs (factorsR x m).1) (factorsR x m).2 w) := by
  have HC := Lib.hid fun w => impl_FactorsOf x m w sx wm
  have hlen := factorsR_len60 x m
  have hsz := factorsR_sizes x m
  generalize (factorsR x m).2 = cd at *
  generalize (factorsR x m).1 = L at *
  have HCE := Lib.hid hcell
  have HTE := Lib.hid ht
  have HX := Lib.hid hx
  have HSZ := Lib.hid hsz
  have HM := Lib.hid hM
  have HUL := Lib.hid hul
  have hML := hM.lt
  clear hcell ht hx hsz hM hul
  go_enter Tryz.func71, Tryz.ntmps71
  go_wp2_with (go_at_call 20; refine (HC.out _).mono ?_; rintro e w1 ⟨v, rfl, o1, b1⟩)
  go_loopg [8, 20] rs.length (fun gk v i wr => ∃ k : Nat, k + gk = rs.length ∧ i = .int .i64 (k : Int) ∧ OwnS wr w.heap.size v (filtK x (rs.take k) L) ∧ Below w.heap.size w wr)
  case atStart => exact ⟨0, by omega, rfl, o1, b1⟩
  case round =>
    clear o1
    obtain ⟨k, hk, rfl, hown, hB⟩ := hrel
    by_cases hp : k < rs.length
    · obtain ⟨gq, rfl⟩ : ∃ gq, gk = gq + 1 := ⟨gk - 1, by omega⟩
      have HK := Lib.hid hk
      have hku : k < us.length := by rw [HUL.out]; exact hp
      have cE := ((bcell hB).1 g k hg).trans (HCE.out k hku)
      obtain ⟨b1', b2', hv, l1, l2, q1, q2⟩ := HTE.out k hku hp
      rw [hv] at cE
      have hpi : (k : Int) < (rs.length : Int) := by omega
      have hkc : k < c := by omega
      have HS : Hid (filtK x (rs.take (k + 1)) L = (filtK x (rs.take k) L).filter (spB x (rs[k]'hp))) := Lib.hid (by rw [List.take_succ_eq_append_getElem hp, filtK_snoc])
      have hbx := Boxed.new wr 62 Value.nilFunc
      have hbc := hbx.cell
      have hbf := hbx.frozen
      clear hk
      go_wp2_with fail
      have hBW : Below w.heap.size w (wr.alloc (.cells #[.func (.func 161) #[] #[.pointer (some ⟨b1', 0, none⟩), .pointer (some ⟨b2', 0, none⟩)]] 62)) := hB.alloc hB.size _
      have hcN := cell_of_heapF (heap_alloc_new wr (.cells #[.func (.func 161) #[] #[.pointer (some ⟨b1', 0, none⟩), .pointer (some ⟨b2', 0, none⟩)]] 62)) 0
      have hoW := OwnS.below hown (Below.new wr (.cells #[.func (.func 161) #[] #[.pointer (some ⟨b1', 0, none⟩), .pointer (some ⟨b2', 0, none⟩)]] 62))
      have hvl := fun q e => OwnS.lt hown q e
      have hzW : (wr.alloc (.cells #[.func (.func 161) #[] #[.pointer (some ⟨b1', 0, none⟩), .pointer (some ⟨b2', 0, none⟩)]] 62)).heap.size = wr.heap.size + 1 := by simp
      generalize hWW : wr.alloc (.cells #[.func (.func 161) #[] #[.pointer (some ⟨b1', 0, none⟩), .pointer (some ⟨b2', 0, none⟩)]] 62) = W at *
      refine (deleteTest x (rs[k]'hp) (filtK x (rs.take k) L) (fun hne => HX.out (fun e => hne (by rw [e]; exact filtK_nil x _))) (fun z hz => HSZ.out z (mem_filtK _ _ hz)) (by have := filtK_len x (rs.take k) L; omega) w.heap.size wr.heap.size b1' b2' u8 W hoW hcN
        (((bcell hBW).1 b1' 0 l1).trans q1) (((bcell hBW).1 b2' 0 l2).trans q2) (HM.out.below hBW) (fun e => by have := (hvl _ e).2; omega) (fun e => by have := (hvl _ e).1; omega) (fun e => by have := (hvl _ e).1; omega) (fun e => by have := (hvl _ e).1; omega)).mono ?_
      rintro e w3 ⟨v3, rfl, o3, g3, e3⟩
      rw [← HS.out] at o3
      have hB3 : Below w.heap.size w w3 := hBW.grown g3 hBW.size (fun q e => (hvl q e).1)
      clear hbx hbc hbf hWW hcN hoW hown cE
      go_wp2_with fail
      go_roundg gq
      case measure => omega
      case rel => exact ⟨k + 1, by have := HK.out; omega, by go_num, o3, hB3⟩
    · obtain rfl : gk = 0 := by omega
      obtain rfl : k = rs.length := by omega
      rw [List.take_length] at hown
      have HO := Lib.hid hown
      have hpi : ¬ ((rs.length : Int) < (rs.length : Int)) := by omega
      clear hown
      go_wp2
      go_ret2
      exact ⟨_, rfl, HO.out, hB⟩

/-- A new box with what a test captures. -/
theorem testAt_new {x : ByteArray} {w : World} {b1 b2 : Nat} {t1 t2 : TypeId} (r : Bool) (h1 : w.heap[b1]? = some (.cells #[.string x] t1)) (h2 : w.heap[b2]? = some (.cells #[.func (.func (jfn r)) #[] #[]] t2)) :
    TestAt x w (.func (.func 161) #[] #[.pointer (some ⟨b1, 0, none⟩), .pointer (some ⟨b2, 0, none⟩)]) r :=
  ⟨b1, b2, rfl, (Array.getElem?_eq_some_iff.1 h1).1, (Array.getElem?_eq_some_iff.1 h2).1, cell_of_heapF h1 0, cell_of_heapF h2 0⟩

set_option maxRecDepth 100000 in
theorem rightSpecialIn_any (x : ByteArray) (w : World) :
    Calls Tryz.prog 72 #[.string x] w fun e w' => ∃ v, e = .returned v ∧ TestAt x w' v true ∧ Below w.heap.size w w' := by
  have HN : Hid (TestAt x ((w.alloc (.cells #[.string x] 9)).alloc (.cells #[.func (.func (jfn true)) #[] #[]] 115)) (.func (.func 161) #[] #[.pointer (some ⟨w.heap.size, 0, none⟩), .pointer (some ⟨w.heap.size + 1, 0, none⟩)]) true) :=
    Lib.hid (testAt_new true (((Below.new (w.alloc _) _).block _ (by simp)).trans (heap_alloc_new w _)) (by have := heap_alloc_new (w.alloc (.cells #[.string x] 9)) (.cells #[.func (.func (jfn true)) #[] #[]] 115); rwa [World.size_alloc] at this))
  go_enter Tryz.func72, Tryz.ntmps72
  go_wp2
  go_ret
  exact ⟨_, rfl, HN.out, (Below.new w _).alloc (by simp) _⟩
set_option maxRecDepth 100000 in
theorem leftSpecialIn_any (x : ByteArray) (w : World) :
    Calls Tryz.prog 73 #[.string x] w fun e w' => ∃ v, e = .returned v ∧ TestAt x w' v false ∧ Below w.heap.size w w' := by
  have HN : Hid (TestAt x ((w.alloc (.cells #[.string x] 9)).alloc (.cells #[.func (.func (jfn false)) #[] #[]] 115)) (.func (.func 161) #[] #[.pointer (some ⟨w.heap.size, 0, none⟩), .pointer (some ⟨w.heap.size + 1, 0, none⟩)]) false) :=
    Lib.hid (testAt_new false (((Below.new (w.alloc _) _).block _ (by simp)).trans (heap_alloc_new w _)) (by have := heap_alloc_new (w.alloc (.cells #[.string x] 9)) (.cells #[.func (.func (jfn false)) #[] #[]] 115); rwa [World.size_alloc] at this))
  go_enter Tryz.func73, Tryz.ntmps73
  go_wp2
  go_ret
  exact ⟨_, rfl, HN.out, (Below.new w _).alloc (by simp) _⟩

end Go.Proofs.YtbhgghajbdlfkabGreat
