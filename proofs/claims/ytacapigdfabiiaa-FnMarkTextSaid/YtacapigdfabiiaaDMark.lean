/-
  The verifier's own text: DMark.
-/
import Derived.Test.YtacapigdfabiiaaRows
import Derived.Test.YtacapigdfabiiaaGb
import Derived.WalkKit
import Derived.ProofKit
import Derived.Below
import Derived.Lib.Hide
import Derived.Outline
import Derived.BigQuiet
import Derived.Deep.QuietTactic
import Derived.Deep.Draws
import Derived.Laws.OwnMore
import Derived.Laws.Rows
import Derived.WalkSpells
import Derived.Deep.RegionWith
namespace Go.Proofs.Ytacapigdfabiiaa
open Go.RowKit
set_option linter.unusedVariables false
set_option maxRecDepth 100000 in
set_option maxHeartbeats 1000000 in
theorem drawMark_any (w : World) (A : Option Addr) (n c : Nat) (h : CodeArg w A n c) : Calls Try.prog 14 #[.slice A n c] w (DrawnInt w) := by
  go_enter Try.func14, Try.ntmps14
  go_wp2_with (go_at_call 42; refine (open_any w A n c h).mono ?_; rintro e w2 ⟨rfl, hr2⟩)
  refine (pick_any w _ w.heap.size 0 100 hr2 (by omega)).mono ?_
  rintro e w3 ⟨v1, a1, b1, _, rfl, hr3, hg3⟩
  have b1 := b1 (by omega)
  go_wp2_with fail
  refine (pick_any w _ w.heap.size 1 256 hr3 (by omega)).mono ?_
  rintro e w4 ⟨v2, a2, b2, _, rfl, hr4, hg4⟩
  have b2 := b2 (by omega)
  go_wp2_with fail
  refine (pick_any w _ w.heap.size 2 256 hr4 (by omega)).mono ?_
  rintro e w5 ⟨v3, a3, b3, _, rfl, hr5, hg5⟩
  have b3 := b3 (by omega)
  clear hg3 hg4 hg5
  go_wp2_with fail
  refine (pick_any w _ w.heap.size 3 7 ((hr5.alloc _).alloc _) (by omega)).mono ?_
  rintro e w6 ⟨v4, a4, b4, _, rfl, hr6, hg6⟩
  have b4 := b4 (by omega)
  have k1 := kept_two' hg6 hr5.lt
  have k0 := kept_two1 hg6 hr5.lt
  clear hg6
  obtain rfl | rfl | rfl | rfl | rfl | rfl | rfl : v4 = 0 ∨ v4 = 1 ∨ v4 = 2 ∨ v4 = 3 ∨ v4 = 4 ∨ v4 = 5 ∨ v4 = 6 := by omega
  all_goals
    go_wp2
    go_ret
    exact ⟨_, rfl, hr6.bel⟩
end Go.Proofs.Ytacapigdfabiiaa
