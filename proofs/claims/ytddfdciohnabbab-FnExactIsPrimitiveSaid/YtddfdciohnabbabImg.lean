/- Images of words: the model. -/
import Derived.Test.YtddfdciohnabbabMorC
namespace Go.Proofs.Ytddfdciohnabbab
set_option linter.unusedVariables false
set_option linter.unusedSimpArgs false
open Go.RowKit

/-- What a letter of a word has to do with the row of images. -/
theorem letter_img {I : List (List UInt8)} {l : List UInt8} (h : lets I l) (i : Nat) (hi : i < l.length) :
    ∃ n : Nat, ∃ hn : n < I.length, ((l[i]'hi).toNat : Int) = (n : Int) + 97 ∧ img I (l[i]'hi) = I[n]'hn ∧ letr n = l[i]'hi := by
  have hc := h _ (List.getElem_mem hi)
  refine ⟨(l[i]'hi).toNat - 97, hc.2, by omega, ?_, letr_of hc.1⟩
  unfold img
  rw [List.getD_eq_getElem?_getD, List.getElem?_eq_getElem hc.2]
  rfl

set_option maxRecDepth 100000 in
set_option maxHeartbeats 1000000 in
theorem l06Image_any (B : Nat) (v : Value) (I : List (List UInt8)) (l : List UInt8) (x : ByteArray) (w : World) (h : OwnS w B v (I.map bt)) (g : Mor I) (hx : x = bt l) (hl : lets I l) (h60 : l.length ≤ 60) :
    Calls Try.prog 181 #[.agg #[v], .string x] w fun e w' => e = .returned (.string (bt (imgOf I l))) ∧ Below w.heap.size w w' := by
  have h1 := g.len1
  have h5 := g.len5
  have hxs : x.size = l.length := by rw [hx]; rfl
  have hxg : ∀ i (hi : i < l.length) (hj : i < x.size), x[i]'hj = l[i]'hi := by subst hx; exact fun i hi hj => rfl
  obtain ⟨p, cap, rfl, hg, hc, cell⟩ := h.rowM (by omega)
  have C := Lib.hid cell
  have G := Lib.hid g
  have HL := Lib.hid hl
  have HX := Lib.hid hxg
  have HS := Lib.hid hxs
  have hs1 : x.size ≤ l.length := by omega
  have hs2 : l.length ≤ x.size := by omega
  clear h cell g hl hxg hx hxs
  go_enter Try.func181, Try.ntmps181
  go_wp2_with fail
  obtain ⟨W1, hW1⟩ : ∃ W1 : World, W1 = w.alloc (.cells #[.slice (some ⟨p, 0, none⟩) I.length cap] 57) := ⟨_, rfl⟩
  have qh : Boxed W1 w.heap.size 57 (.slice (some ⟨p, 0, none⟩) I.length cap) := by rw [hW1]; exact Boxed.new _ _ _
  have B1 : Below w.heap.size w W1 := by rw [hW1]; exact Below.new _ _
  rw [← hW1]
  clear hW1
  have QH := Lib.hid qh
  clear qh
  go_loopw [5, 6] (fun o i wr => ∃ (k : Nat) (r : ByteArray), k ≤ l.length ∧ i = .int .i64 k ∧ o = .string r ∧ Hid (r = bt (imgOf I (l.take k))) ∧ r.size ≤ 12 * k ∧ Below W1.heap.size W1 wr) (fun _ i _ => l.length - (intOf i).toNat)
  case atStart => exact ⟨0, ⟨#[]⟩, Nat.zero_le _, rfl, rfl, Lib.hid rfl, by show 0 ≤ _; omega, Below.refl _ _⟩
  case round =>
    obtain ⟨k, r, hk, rfl, rfl, HR, hr, hB⟩ := hrel
    have BW := B1.then hB
    have kr := (boxed_later QH.out hB).cell
    by_cases hp : k < l.length
    · have hkx : k < x.size := by omega
      obtain ⟨n, hn, e1, e2, _⟩ := letter_img HL.out k hp
      rw [← HX.out k hp hkx] at e1
      have kc : wr.cell? ⟨p, n, none⟩ = some (.string (bt (I[n]'hn))) := by rw [(bcell BW).1 p n hg]; exact C.out n hn
      have hz12 : (bt (I[n]'hn)).size ≤ 12 := (G.out.im n hn).1
      have hap : r ++ bt (I[n]'hn) = bt (imgOf I (l.take (k + 1))) := by rw [HR.out, bt_app, imgOf_take I l k hp, e2]
      have hlt : ((x[k]'hkx).toNat : Int) < 256 := by omega
      have HAP := Lib.hid hap
      generalize bt (I[n]'hn) = z at kc hz12 HAP
      have hasz : (r ++ z).size = r.size + z.size := ByteArray.size_append
      have HAS := Lib.hid hasz
      have hnc : n < cap := by omega
      clear e2 hap hasz
      go_wp2_with fail
      go_quiet (fail)
      go_wp2_with fail
      go_roundw
      case rel => exact ⟨k + 1, r ++ z, by omega, by go_num, rfl, HAP, by have := HAS.out; omega, hB.drewN _⟩
      case measure => simp [intOf]; omega
    · have hke : k = l.length := by omega
      have HN : Hid (r = bt (imgOf I l)) := Lib.hid (by rw [HR.out, hke, List.take_of_length_le (Nat.le_refl _)])
      clear hke
      go_wp2_with fail
      go_ret
      exact ⟨by rw [← HN.out]; rfl, BW⟩
end Go.Proofs.Ytddfdciohnabbab
