/-
  The verifier's own text: DTextV.
-/
import Derived.Test.YtfajfomiadcffaaRows
import Derived.Test.YtfajfomiadcffaaDText
import Derived.WalkKit
import Derived.ProofKit
import Derived.Below
import Derived.Lib.Hide
import Derived.Outline
import Derived.BigQuiet
import Derived.Deep.QuietTactic
import Derived.Deep.Draws
import Derived.Laws.OwnMore
import Derived.Laws.Rows
import Derived.WalkSpells
import Derived.Deep.RegionWith
namespace Go.Proofs.Ytfajfomiadcffaa
open Go.RowKit
set_option linter.unusedVariables false
theorem drawText_any (w : World) (A : Option Addr) (n c : Nat) (h : CodeArg w A n c) : Calls Try.prog 15 #[.slice A n c] w (DrawnStr w 81) := by
  go_enter Try.func15, Try.ntmps15
  go_wp2_with (first | (go_at_call 25; refine (open_any w A n c h).mono ?_; rintro e w2 ⟨rfl, hr2⟩) | (go_at_call 29; refine (text_draw w _ w.heap.size 0 2 (by assumption) (by omega) (by omega) (by omega)).mono ?_; rintro e w3 ⟨s, hs, rfl, hr3, _⟩))
  go_ret
  exact ⟨s, hs, rfl, hr3.bel⟩
end Go.Proofs.Ytfajfomiadcffaa
