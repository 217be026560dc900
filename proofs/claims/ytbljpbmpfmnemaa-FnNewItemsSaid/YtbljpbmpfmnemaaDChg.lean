/-
  The verifier's own text: DChg.
-/
import Derived.Test.YtbljpbmpfmnemaaRows
import Derived.Test.YtbljpbmpfmnemaaBothD
import Derived.Test.YtbljpbmpfmnemaaGy
import Derived.WalkKit
import Derived.ProofKit
import Derived.Below
import Derived.Lib.Hide
import Derived.Outline
import Derived.BigQuiet
import Derived.Deep.QuietTactic
import Derived.Deep.Draws
import Derived.Laws.OwnMore
import Derived.Laws.Rows
import Derived.WalkSpells
import Derived.Deep.RegionWith
namespace Go.Proofs.Ytbljpbmpfmnemaa
open Go.RowKit
set_option linter.unusedVariables false
/-- two drawn feeds, as a drawing function answers them -/
def DrawnB (w : World) (e : Ending) (w' : World) : Prop := ∃ (v u : Value) (A B : List It), e = .returned (.tuple #[v, u]) ∧ A.length ≤ 7 ∧ B.length ≤ 9 ∧ ShortF A ∧ ShortF B ∧ RdG encI w' v A ∧ RdG encI w' u B ∧ Below w.heap.size w w'
theorem drawNI_any (w : World) (A : Option Addr) (n c : Nat) (h : CodeArg w A n c) : Calls Try.prog 19 #[.slice A n c] w (DrawnB w) := by
  go_enter Try.func19, Try.ntmps19
  go_wp2_with (go_at_call 41; refine (open_any w A n c h).mono ?_; rintro e w2 ⟨rfl, hr2⟩)
  refine (both_draw w w2 w.heap.size 0 9 hr2 (by omega) (by omega) (by omega)).mono ?_
  rintro e w3 ⟨v, u, L, M, rfl, h7, h9, hs1, hs2, hd1, hd2, hr3⟩
  go_wp2
  go_ret2
  exact ⟨v, u, L, M, rfl, h7, h9, hs1, hs2, hd1, hd2, hr3.bel⟩
theorem drawCI_any (w : World) (A : Option Addr) (n c : Nat) (h : CodeArg w A n c) : Calls Try.prog 22 #[.slice A n c] w (DrawnB w) := by
  go_enter Try.func22, Try.ntmps22
  go_wp2_with (go_at_call 41; refine (open_any w A n c h).mono ?_; rintro e w2 ⟨rfl, hr2⟩)
  refine (both_draw w w2 w.heap.size 0 9 hr2 (by omega) (by omega) (by omega)).mono ?_
  rintro e w3 ⟨v, u, L, M, rfl, h7, h9, hs1, hs2, hd1, hd2, hr3⟩
  go_wp2
  go_ret2
  exact ⟨v, u, L, M, rfl, h7, h9, hs1, hs2, hd1, hd2, hr3.bel⟩
theorem drawGK_any (w : World) (A : Option Addr) (n c : Nat) (h : CodeArg w A n c) : Calls Try.prog 25 #[.slice A n c] w (DrawnB w) := by
  go_enter Try.func25, Try.ntmps25
  go_wp2_with (go_at_call 41; refine (open_any w A n c h).mono ?_; rintro e w2 ⟨rfl, hr2⟩)
  refine (both_draw w w2 w.heap.size 0 9 hr2 (by omega) (by omega) (by omega)).mono ?_
  rintro e w3 ⟨v, u, L, M, rfl, h7, h9, hs1, hs2, hd1, hd2, hr3⟩
  go_wp2
  go_ret2
  exact ⟨v, u, L, M, rfl, h7, h9, hs1, hs2, hd1, hd2, hr3.bel⟩
theorem drawMF_any (w : World) (A : Option Addr) (n c : Nat) (h : CodeArg w A n c) : Calls Try.prog 29 #[.slice A n c] w (DrawnB w) := by
  go_enter Try.func29, Try.ntmps29
  go_wp2_with (go_at_call 41; refine (open_any w A n c h).mono ?_; rintro e w2 ⟨rfl, hr2⟩)
  refine (both_draw w w2 w.heap.size 0 9 hr2 (by omega) (by omega) (by omega)).mono ?_
  rintro e w3 ⟨v, u, L, M, rfl, h7, h9, hs1, hs2, hd1, hd2, hr3⟩
  go_wp2
  go_ret2
  exact ⟨v, u, L, M, rfl, h7, h9, hs1, hs2, hd1, hd2, hr3.bel⟩
theorem drawSF_any (w : World) (A : Option Addr) (n c : Nat) (h : CodeArg w A n c) : Calls Try.prog 12 #[.slice A n c] w (DrawnF w) := by
  go_enter Try.func12, Try.ntmps12
  go_wp2_with (go_at_call 41; refine (open_any w A n c h).mono ?_; rintro e w2 ⟨rfl, hr2⟩)
  refine (feed_draw w w2 w.heap.size 0 9 hr2 (by omega) (by omega) (by omega)).mono ?_
  rintro e w3 ⟨v, L, rfl, h7, hsh, hown, hr3⟩
  go_wp2
  go_ret
  exact ⟨v, L, rfl, h7, hsh, OwnG.base hown (by omega), hr3.bel⟩
end Go.Proofs.Ytbljpbmpfmnemaa
