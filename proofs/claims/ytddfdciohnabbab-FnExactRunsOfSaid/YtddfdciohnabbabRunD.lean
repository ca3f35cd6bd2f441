/- Runs compared: the function that the sort is given. -/
import Derived.Test.YtddfdciohnabbabRunC
namespace Go.Proofs.Ytddfdciohnabbab
set_option linter.unusedVariables false
set_option linter.unusedSimpArgs false
open Go.RowKit Go.Sort

set_option maxRecDepth 100000 in
set_option maxHeartbeats 2000000 in
theorem compareRuns_any (a b : Tr) (w : World) :
    Calls Try.prog 114 #[.agg (encT a).toArray, .agg (encT b).toArray] w fun e w' => e = .returned (.int .i64 (cmpT a b)) ∧ ∃ q os', w' = grow (w.drewN q) os' := by
  obtain ⟨a1, a2, a3⟩ := a
  obtain ⟨b1, b2, b3⟩ := b
  show Calls _ _ #[.agg #[.int .i64 (a1 : Int), .int .i64 (a2 : Int), .int .i64 (a3 : Int)], .agg #[.int .i64 (b1 : Int), .int .i64 (b2 : Int), .int .i64 (b3 : Int)]] _ _
  have HR : Hid (cmpT (a1, a2, a3) (b1, b2, b3) = or3 (cmpN a1 b1) (cmpN a2 b2) (cmpN a3 b3)) := Lib.hid rfl
  have C1 := Lib.hid (cmpCompare_any a1 b1)
  have C2 := Lib.hid (cmpCompare_any a2 b2)
  have C3 := Lib.hid (cmpCompare_any a3 b3)
  have NX := Rn3.new w (.int .i64 (a1 : Int)) (.int .i64 (a2 : Int)) (.int .i64 (a3 : Int))
  have NY := Rn3.new (w.alloc (.cells #[.int .i64 (a1 : Int), .int .i64 (a2 : Int), .int .i64 (a3 : Int)] 113)) (.int .i64 (b1 : Int)) (.int .i64 (b2 : Int)) (.int .i64 (b3 : Int))
  have NX2 := NX.later (Below.new (w.alloc (.cells #[.int .i64 (a1 : Int), .int .i64 (a2 : Int), .int .i64 (a3 : Int)] 113)) (.cells #[.int .i64 (b1 : Int), .int .i64 (b2 : Int), .int .i64 (b3 : Int)] 113))
  have HG : Hid ((w.alloc (.cells #[.int .i64 (a1 : Int), .int .i64 (a2 : Int), .int .i64 (a3 : Int)] 113)).alloc (.cells #[.int .i64 (b1 : Int), .int .i64 (b2 : Int), .int .i64 (b3 : Int)] 113) = grow w #[.cells #[.int .i64 (a1 : Int), .int .i64 (a2 : Int), .int .i64 (a3 : Int)] 113, .cells #[.int .i64 (b1 : Int), .int .i64 (b2 : Int), .int .i64 (b3 : Int)] 113]) := Lib.hid (by rw [alloc_eq_grow, alloc_eq_grow, grow_grow]; rfl)
  have x0 := NX2.c0
  have x1 := NX2.c1
  have x2 := NX2.c2
  have y0 := NY.c0
  have y1 := NY.c1
  have y2 := NY.c2
  have hsz : ((w.alloc (.cells #[.int .i64 (a1 : Int), .int .i64 (a2 : Int), .int .i64 (a3 : Int)] 113)).heap.size) = w.heap.size + 1 := Array.size_push _
  rw [hsz] at y0 y1 y2
  have hsz2 : ((w.alloc (.cells #[.int .i64 (a1 : Int), .int .i64 (a2 : Int), .int .i64 (a3 : Int)] 113)).alloc (.cells #[.int .i64 (b1 : Int), .int .i64 (b2 : Int), .int .i64 (b3 : Int)] 113)).heap.size = w.heap.size + 2 := (Array.size_push _).trans (by rw [hsz])
  clear NX NY NX2 hsz
  have hmo : Try.prog.follows .mixedOrders = true := by kernel_rfl
  go_enter Try.func114, Try.ntmps114
  go_wp2_with fail
  generalize (w.alloc (.cells #[.int .i64 (a1 : Int), .int .i64 (a2 : Int), .int .i64 (a3 : Int)] 113)).alloc (.cells #[.int .i64 (b1 : Int), .int .i64 (b2 : Int), .int .i64 (b3 : Int)] 113) = W at *
  go_still_tail 15, hmo
  still_call (C1.out _)
  repeat still_step
  still_call (C2.out _)
  repeat still_step
  still_call (C3.out _)
  refine wpStill_nil ?_
  clear x0 x1 x2 y0 y1 y2
  generalize cmpN a1 b1 = v1 at *
  generalize cmpN a2 b2 = v2 at *
  generalize cmpN a3 b3 = v3 at *
  go_wp2_with fail
  have hn := World.alloc_heap_new W (.cells #[.int .i64 v1, .int .i64 v2, .int .i64 v3] 3)
  rw [hsz2] at hn
  have hd : ((W.alloc (.cells #[.int .i64 v1, .int .i64 v2, .int .i64 v3] 3)).drew).heap = (W.alloc (.cells #[.int .i64 v1, .int .i64 v2, .int .i64 v3] 3)).heap := rfl
  refine (cmpOr_any (w.heap.size + 2) v1 v2 v3 _ (by simp only [World.cell?, hd, hn]; rfl) (by simp only [World.cell?, hd, hn]; rfl) (by simp only [World.cell?, hd, hn]; rfl)).mono ?_
  clear hn hd
  rintro e w5 ⟨rfl, rfl⟩
  go_wp2_with fail
  go_ret
  have HF : Hid (∃ q os', (W.alloc (.cells #[.int .i64 v1, .int .i64 v2, .int .i64 v3] 3)).drew = grow (w.drewN q) os') := Lib.hid ⟨1, _, by rw [HG.out, alloc_eq_grow, grow_grow]; rfl⟩
  exact ⟨by rw [HR.out]; rfl, HF.out⟩
end Go.Proofs.Ytddfdciohnabbab
