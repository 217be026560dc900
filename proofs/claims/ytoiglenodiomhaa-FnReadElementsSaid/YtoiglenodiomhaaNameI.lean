/-
  The verifier's own text: NameI.
-/
import Derived.Test.YtoiglenodiomhaaRows
import Derived.Test.YtoiglenodiomhaaEscMath
import Derived.Test.YtoiglenodiomhaaGot
import Derived.WalkKit
import Derived.ProofKit
import Derived.Below
import Derived.Lib.Hide
import Derived.Outline
import Derived.BigQuiet
import Derived.Deep.QuietTactic
import Derived.Deep.Draws
import Derived.Laws.OwnMore
import Derived.Laws.Rows
import Derived.WalkSpells
import Derived.Deep.RegionWith
namespace Go.Proofs.Ytoiglenodiomhaa
open Go.RowKit
set_option linter.unusedVariables false
/-- the table of names, as it lies in memory -/
def NT : Array Value := #[.int .u8 38, .string (bs [38, 97, 109, 112, 59]), .int .u8 60, .string (bs [38, 108, 116, 59]), .int .u8 62, .string (bs [38, 103, 116, 59]), .int .u8 34, .string (bs [38, 113, 117, 111, 116, 59])]
theorem table_any (w : World) :
    Calls Try.prog 59 #[] w fun e w' => e = .returned (.slice (some ⟨w.heap.size, 0, none⟩) 4 4) ∧ w.alloc (.cells NT 74) = w' := by
  go_enter Try.func59, Try.ntmps59
  go_wp2
  go_ret
  exact ⟨rfl, rfl⟩
end Go.Proofs.Ytoiglenodiomhaa
