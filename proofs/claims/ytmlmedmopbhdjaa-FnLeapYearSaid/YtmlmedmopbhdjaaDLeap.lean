/-
  The verifier's own text: DLeap.
-/
import Derived.Test.YtmlmedmopbhdjaaRows
import Derived.Test.YtmlmedmopbhdjaaOpen
import Derived.WalkKit
import Derived.ProofKit
import Derived.Below
import Derived.Lib.Hide
import Derived.Outline
import Derived.BigQuiet
import Derived.Deep.QuietTactic
import Derived.Deep.Draws
import Derived.Laws.OwnMore
import Derived.Laws.Rows
import Derived.WalkSpells
import Derived.Deep.RegionWith
namespace Go.Proofs.Ytmlmedmopbhdjaa
open Go.RowKit
set_option linter.unusedVariables false
set_option maxHeartbeats 1000000 in
theorem drawLeap_any (w : World) (A : Option Addr) (n c : Nat) (h : CodeArg w A n c) : Calls Try.prog 13 #[.slice A n c] w (DrawnInt w) := by
  go_enter Try.func13, Try.ntmps13
  go_wp2_with (go_at_call 29; refine (open_any w A n c h).mono ?_; rintro e w2 ⟨rfl, hr2⟩)
  refine (pick_any w _ w.heap.size 0 40 hr2 (by omega)).mono ?_
  rintro e w3 ⟨v1, a1, b1, _, rfl, hr3, hg3⟩
  have b1 := b1 (by omega)
  go_wp2_with fail
  refine (pick_any w _ w.heap.size 1 42 hr3 (by omega)).mono ?_
  rintro e w4 ⟨v2, a2, b2, _, rfl, hr4, hg4⟩
  have b2 := b2 (by omega)
  clear hg3 hg4
  go_wp2_with fail
  refine (pick_any w _ w.heap.size 2 7 ((hr4.alloc _).alloc _) (by omega)).mono ?_
  rintro e w6 ⟨v4, a4, b4, _, rfl, hr6, hg6⟩
  have b4 := b4 (by omega)
  have k1 := kept_two' hg6 hr4.lt
  have k0 := kept_two1 hg6 hr4.lt
  clear hg6
  obtain rfl | rfl | rfl | rfl | rfl | rfl | rfl : v4 = 0 ∨ v4 = 1 ∨ v4 = 2 ∨ v4 = 3 ∨ v4 = 4 ∨ v4 = 5 ∨ v4 = 6 := by omega
  all_goals
    go_wp2
    go_ret
    exact ⟨_, rfl, hr6.bel⟩
end Go.Proofs.Ytmlmedmopbhdjaa
