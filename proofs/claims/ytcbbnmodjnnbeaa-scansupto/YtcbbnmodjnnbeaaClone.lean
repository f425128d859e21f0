/- strings.Clone, by the library's contract. -/
import Derived.Test.YtcbbnmodjnnbeaaExt
import Derived.Test.YtcbbnmodjnnbeaaProg
import Derived.Shelf.Strconv.Clone
set_option linter.unusedSimpArgs false
set_option linter.unusedVariables false
namespace Go.Proofs.Ytcbbnmodjnnbeaa
open Go.RowKit

def Try.renClone : Go.Shelf.Ren := ⟨fun | 316 => 108 | n => n, fun | 0 => 0 | 3 => 3 | 4 => 4 | 5 => 5 | 9 => 9 | 37 => 47 | 127 => 236 | n => n, fun n => n⟩
theorem Try.layClone : LaysM.n316 Try.prog Try.renClone := by
  constructor
  · constructor
    all_goals first | kernel_rfl | (intro w; kernel_rfl)
  all_goals first | kernel_rfl | (intro w; kernel_rfl)
set_option maxHeartbeats 400000 in
theorem stringsClone (s : ByteArray) (w : World) (h : s.size ≤ 281474976710656) :
    Calls Try.prog 54 #[.string s] w fun e w' => e = .returned (.string s) ∧ Below w.heap.size w w' := by
  go_enter Try.func54, Try.ntmps54
  go_wp2_with (go_at_call 108; refine (Any.stringslite_Clone Try.layClone s _ h).mono ?_; rintro e w1 ⟨rfl, hb1⟩)
  go_ret
  exact ⟨rfl, hb1⟩
end Go.Proofs.Ytcbbnmodjnnbeaa
