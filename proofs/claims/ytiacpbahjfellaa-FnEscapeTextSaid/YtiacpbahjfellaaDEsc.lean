/-
  The verifier's own text: DEsc.
-/
import Derived.Test.YtiacpbahjfellaaRows
import Derived.Test.YtiacpbahjfellaaGh
import Derived.WalkKit
import Derived.ProofKit
import Derived.Below
import Derived.Lib.Hide
import Derived.Outline
import Derived.BigQuiet
import Derived.Deep.QuietTactic
import Derived.Deep.Draws
import Derived.Laws.OwnMore
import Derived.Laws.Rows
import Derived.WalkSpells
import Derived.Deep.RegionWith
namespace Go.Proofs.Ytiacpbahjfellaa
open Go.RowKit
set_option linter.unusedVariables false
theorem drawEsc_any (w : World) (A : Option Addr) (n c : Nat) (h : CodeArg w A n c) : Calls Try.prog 15 #[.slice A n c] w (DrawnStr w 81) := by
  go_enter Try.func15, Try.ntmps15
  go_wp2_with (first | (go_at_call 25; refine (open_any w A n c h).mono ?_; rintro e w2 ⟨rfl, hr2⟩) | (go_at_call 24; refine (text_draw w _ w.heap.size 0 6 (by assumption) (by omega) (by omega) (by omega)).mono ?_; rintro e w3 ⟨s, hs, rfl, hr3, _⟩))
  go_ret
  exact ⟨s, hs, rfl, hr3.bel⟩
end Go.Proofs.Ytiacpbahjfellaa
