/-
  The verifier's own text: DDay.
-/
import Derived.Test.YtmlmedmopbhdjaaRows
import Derived.Test.YtmlmedmopbhdjaaOpen
import Derived.WalkKit
import Derived.ProofKit
import Derived.Below
import Derived.Lib.Hide
import Derived.Outline
import Derived.BigQuiet
import Derived.Deep.QuietTactic
import Derived.Deep.Draws
import Derived.Laws.OwnMore
import Derived.Laws.Rows
import Derived.WalkSpells
import Derived.Deep.RegionWith
namespace Go.Proofs.Ytmlmedmopbhdjaa
open Go.RowKit
set_option linter.unusedVariables false
def DrewInt (W w : World) (g m : Nat) (e : Ending) (w' : World) : Prop := ∃ v : Int, e = .returned (.int .i64 v) ∧ Rd W w' g m ∧ w.grownBy w' (some g)
set_option maxHeartbeats 1000000 in
theorem day_draw (W w : World) (g m : Nat) (h : Rd W w g m) (hm : m ≤ 900000) :
    Calls Try.prog 36 #[.pointer (some ⟨g, 0, none⟩)] w (DrewInt W w g (m + 4)) := by
  go_enter Try.func36, Try.ntmps36
  go_wp2_with fail
  refine (pick_any W _ g m 256 h (by omega)).mono ?_
  rintro e w3 ⟨v1, a1, b1, _, rfl, hr3, hg3⟩
  have b1 := b1 (by omega)
  go_wp2_with fail
  refine (pick_any W _ g (m + 1) 256 hr3 (by omega)).mono ?_
  rintro e w4 ⟨v2, a2, b2, _, rfl, hr4, hg4⟩
  have b2 := b2 (by omega)
  go_wp2_with fail
  refine (pick_any W _ g (m + 2) 3 hr4 (by omega)).mono ?_
  rintro e w5 ⟨v3, a3, b3, _, rfl, hr5, hg5⟩
  have b3 := b3 (by omega)
  go_wp2_with fail
  refine (pick_any W _ g (m + 3) 6 ((hr5.alloc _).alloc _) (by omega)).mono ?_
  rintro e w6 ⟨v4, a4, b4, _, rfl, hr6, hg6⟩
  have b4 := b4 (by omega)
  have k1 := kept_two' hg6 hr5.lt
  have k0 := kept_two1 hg6 hr5.lt
  have hgg := Lib.hid (grown_trans hg3 (grown_trans hg4 (grown_trans hg5 (grown_trans (grown_alloc w5 _ _) (grown_trans (grown_alloc _ _ _) hg6)))))
  clear hg3 hg4 hg5 hg6
  obtain rfl | rfl | rfl | rfl | rfl | rfl : v4 = 0 ∨ v4 = 1 ∨ v4 = 2 ∨ v4 = 3 ∨ v4 = 4 ∨ v4 = 5 := by omega
  all_goals
    go_wp2
    go_ret
    exact ⟨_, rfl, hr6, hgg.out⟩
set_option maxHeartbeats 1000000 in
theorem drawDate_any (w : World) (A : Option Addr) (n c : Nat) (h : CodeArg w A n c) : Calls Try.prog 23 #[.slice A n c] w (DrawnInt w) := by
  go_enter Try.func23, Try.ntmps23
  go_wp2_with (go_at_call 29; refine (open_any w A n c h).mono ?_; rintro e w2 ⟨rfl, hr2⟩)
  refine (day_draw w _ w.heap.size 0 hr2 (by omega)).mono ?_
  rintro e w3 ⟨v, rfl, hr3, hg3⟩
  go_wp2_with fail
  refine (pick_any w _ w.heap.size 4 9 (hr3.alloc _) (by omega)).mono ?_
  rintro e w4 ⟨v2, a2, b2, _, rfl, hr4, hg4⟩
  have b2 := b2 (by omega)
  have k0 := cell_kept hg4 hr3.lt
  clear hg3 hg4
  obtain ⟨q, hq⟩ : ∃ q, v2 / 8 = q := ⟨_, rfl⟩
  have q0 : 0 ≤ v2 / 8 := by omega
  have q1 : v2 / 8 < 2 := by omega
  obtain e | e : v2 / 8 = 0 ∨ v2 / 8 = 1 := by omega
  all_goals
    clear q0 q1 hq
    go_wp2
    go_ret
    exact ⟨_, rfl, hr4.bel⟩
end Go.Proofs.Ytmlmedmopbhdjaa
