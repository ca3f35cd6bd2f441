/- Test lengths: the program. -/
import Derived.Test.YtddfdciohnabbabLens
import Derived.Test.YtddfdciohnabbabTestPlain
import Derived.Test.YtddfdciohnabbabShelf
namespace Go.Proofs.Ytddfdciohnabbab
set_option linter.unusedVariables false
set_option linter.unusedSimpArgs false
open Go.RowKit

theorem slice5 (b m : Nat) (hm : m ≤ 5) (W : World) : (Instr.sliceAt 91 (.pointer (some ⟨b, 0, none⟩)) none (some (.int .i64 (m : Int))) none).run Try.prog W = .ok (.slice (some ⟨b, 0, none⟩) m 5) W := by
  obtain ⟨i0, hi, _, hs, _⟩ := info_parts infoI64
  have ha : Try.prog.arrayLen 91 = 5 := by kernel_rfl
  have he : Try.prog.elem 91 = 2 := by kernel_rfl
  rw [run_sliceAt_array_h W 91 ⟨b, 0, none⟩ (by rw [ha, he]; exact Try.underlying91) .i64 (m : Int) (by omega) (by rw [ha]; omega), he, run_sizeOf W hi, ha, show Try.prog.cellsOf 2 = 1 by kernel_rfl]
  simp [slicedAt, Addr.add]

end Go.Proofs.Ytddfdciohnabbab
