/-
  The verifier's own text: MarkI.
-/
import Derived.Test.YtdokgimolnakcaaRows
import Derived.Test.YtdokgimolnakcaaMarkSlice
import Derived.WalkKit
import Derived.ProofKit
import Derived.Below
import Derived.Lib.Hide
import Derived.Outline
import Derived.BigQuiet
import Derived.Deep.QuietTactic
import Derived.Deep.Draws
import Derived.Laws.OwnMore
import Derived.Laws.Rows
import Derived.WalkSpells
import Derived.Deep.RegionWith
namespace Go.Proofs.Ytdokgimolnakcaa
open Go.RowKit
set_option linter.unusedVariables false
theorem digit_any (d : Nat) (w : World) (h : d < 36) :
    Calls Try.prog 49 #[.int .i64 d] w fun e w' => e = .returned (.string (bs [mdig d])) ∧ w = w' := by
  have hs := slice_digit d (by omega) (by omega)
  go_enter Try.func49, Try.ntmps49
  go_wp2
  go_ret
  exact ⟨rfl, rfl⟩
end Go.Proofs.Ytdokgimolnakcaa
