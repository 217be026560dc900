/-
  The verifier's own text: DWord.
-/
import Derived.Test.YtoiglenodiomhaaRows
import Derived.Test.YtoiglenodiomhaaOpen
import Derived.WalkKit
import Derived.ProofKit
import Derived.Below
import Derived.Lib.Hide
import Derived.Outline
import Derived.BigQuiet
import Derived.Deep.QuietTactic
import Derived.Deep.Draws
import Derived.Laws.OwnMore
import Derived.Laws.Rows
import Derived.WalkSpells
import Derived.Deep.RegionWith
namespace Go.Proofs.Ytoiglenodiomhaa
open Go.RowKit
set_option linter.unusedVariables false
theorem word_draw (W w : World) (g m : Nat) (k : Int) (h : Rd W w g m) (hm : m ≤ 900000) (hk : -1000000 ≤ k) (hk2 : k ≤ 1000000) :
    Calls Try.prog 49 #[.pointer (some ⟨g, 0, none⟩), .int .i64 k] w (DrewStr W w g (m + 2) 9) := by
  go_enter Try.func49, Try.ntmps49
  go_wp2_with (go_at_call 41; refine (odd_any W w g m k h (by omega) hk hk2).mono ?_; rintro e w2 ⟨b, rfl, hr2, hg2⟩)
  · refine (pick_any W _ g (m + 1) 5 (hr2.alloc _) (by omega)).mono ?_
    rintro e w4 ⟨v, hv0, hv1, _, rfl, hr4, hg4⟩
    have hc := cell_kept hg4 hr2.lt
    have hv := hv1 (by omega)
    have hgg := Lib.hid (grown_trans hg2 (grown_trans (grown_alloc w2 _ _) hg4))
    clear hg4 hg2 hv1
    obtain rfl | rfl | rfl | rfl | rfl : v = 0 ∨ v = 1 ∨ v = 2 ∨ v = 3 ∨ v = 4 := by omega
    all_goals
      go_wp2
      go_ret
      exact ⟨_, by decide, rfl, hr4, hgg.out⟩
  · refine (pick_any W _ g (m + 1) 6 (hr2.alloc _) (by omega)).mono ?_
    rintro e w4 ⟨v, hv0, hv1, _, rfl, hr4, hg4⟩
    have hc := cell_kept hg4 hr2.lt
    have hv := hv1 (by omega)
    have hgg := Lib.hid (grown_trans hg2 (grown_trans (grown_alloc w2 _ _) hg4))
    clear hg4 hg2 hv1
    obtain rfl | rfl | rfl | rfl | rfl | rfl : v = 0 ∨ v = 1 ∨ v = 2 ∨ v = 3 ∨ v = 4 ∨ v = 5 := by omega
    all_goals
      go_wp2
      go_ret
      exact ⟨_, by decide, rfl, hr4, hgg.out⟩
end Go.Proofs.Ytoiglenodiomhaa
