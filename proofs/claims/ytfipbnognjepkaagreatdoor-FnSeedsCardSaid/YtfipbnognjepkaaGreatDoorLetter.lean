/- A letter as a text: the model. -/
import Derived.Test.YtfipbnognjepkaaGreatDoorOwn
import Derived.Test.YtfipbnognjepkaaGreatDoorWordOfPlain
namespace Go.Proofs.YtfipbnognjepkaaGreatDoor
set_option linter.unusedVariables false
set_option linter.unusedSimpArgs false
open Go.RowKit

set_option maxRecDepth 100000 in
theorem l01Letter_any (n : Int) (w : World) (h0 : 0 ≤ n) (h4 : n ≤ 4) :
    Calls Tryz.prog 119 #[.int .i64 n] w fun e w' => e = .returned (.string ⟨#[letB n]⟩) ∧ Below w.heap.size w w' := by
  have hb := letB_nat h0 h4
  have hcv : (convert 22 9 (.slice (some ⟨w.heap.size, 0, none⟩) 1 1)).run Tryz.prog (w.alloc (.cells #[.int .u8 (97 + n)] 5)) = .ok (.string ⟨#[letB n]⟩) (w.alloc (.cells #[.int .u8 (97 + n)] 5)) := by
    refine run_convert_bytes_back _ _ _ 5 _ _ [letB n] Tryz.underlying22 Tryz.underlying5 Tryz.underlying9 ?_
    intro j hj
    match j, hj with
    | 0, _ =>
      rw [← hb]
      simp [Addr.add, World.cell?_alloc_new]
  clear hb
  go_enter Tryz.func119, Tryz.ntmps119
  go_wp2
  go_ret
  exact ⟨rfl, Below.new _ _⟩

end Go.Proofs.YtfipbnognjepkaaGreatDoor
