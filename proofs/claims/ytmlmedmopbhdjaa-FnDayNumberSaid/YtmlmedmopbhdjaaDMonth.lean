/-
  The verifier's own text: DMonth.
-/
import Derived.Test.YtmlmedmopbhdjaaRows
import Derived.Test.YtmlmedmopbhdjaaOpen
import Derived.IntWalk
import Derived.WalkKit
import Derived.ProofKit
import Derived.Below
import Derived.Lib.Hide
import Derived.Outline
import Derived.BigQuiet
import Derived.Deep.QuietTactic
import Derived.Deep.Draws
import Derived.Laws.OwnMore
import Derived.Laws.Rows
import Derived.WalkSpells
import Derived.Deep.RegionWith
namespace Go.Proofs.Ytmlmedmopbhdjaa
open Go.RowKit
set_option linter.unusedVariables false
def DrawnInt2 (w : World) (e : Ending) (w' : World) : Prop := ∃ v u : Int, e = .returned (.tuple #[.int .i64 v, .int .i64 u]) ∧ Below w.heap.size w w'
theorem of_two (x y : Int) (v : Int) (h0 : 0 ≤ v) (h1 : v < 2) : ∃ z : Int, (#[Value.int .i64 x, Value.int .i64 y] : Array Value)[v.toNat]? = some (.int .i64 z) ∧ (∀ h : v.toNat < [Value.int .i64 x, Value.int .i64 y].length, [Value.int .i64 x, Value.int .i64 y][v.toNat] = .int .i64 z) := by
  obtain rfl | rfl : v = 0 ∨ v = 1 := by omega
  · exact ⟨_, rfl, fun _ => rfl⟩
  · exact ⟨_, rfl, fun _ => rfl⟩
set_option maxHeartbeats 2000000 in
theorem drawMonth_any (w : World) (A : Option Addr) (n c : Nat) (h : CodeArg w A n c) : Calls Try.prog 18 #[.slice A n c] w (DrawnInt2 w) := by
  go_enter Try.func18, Try.ntmps18
  go_wp2_with (go_at_call 29; refine (open_any w A n c h).mono ?_; rintro e w2 ⟨rfl, hr2⟩)
  go_region_with (first
    | (go_at_call 30; ((with_reducible refine (pick_any w _ w.heap.size 0 40 hr2.drew (by omega)).mono ?_); rintro e w3 ⟨v1, a1, b1, _, rfl, hr3, hg3⟩; have b1 := b1 (by omega); have x1 := IntWalk.i64_in (1990 + v1) (by omega)))
    | (go_at_call 30; ((with_reducible refine (pick_any w _ w.heap.size 1 42 hr3 (by omega)).mono ?_); rintro e w4 ⟨v2, a2, b2, _, rfl, hr4, hg4⟩; have b2 := b2 (by omega); have x2 := IntWalk.i64_in (100 * v2) (by omega)))
    | (go_at_call 30; ((with_reducible refine (pick_any w _ w.heap.size 2 2 hr4 (by omega)).mono ?_); rintro e w5 ⟨v3, a3, b3, _, rfl, hr5, hg5⟩; have b3 := b3 (by omega); obtain ⟨z, hel, hel'⟩ := of_two (1990 + v1) (100 * v2) v3 a3 b3; have hlt4 := hr4.lt; (first | (have k1 := cell_kept hg5 hlt4 v3.toNat; rw [hel] at k1; skip) | skip)))
    | (go_at_call 30; ((with_reducible refine (pick_any w _ w.heap.size 2 2 (hr4.alloc _) (by omega)).mono ?_); rintro e w5 ⟨v3, a3, b3, _, rfl, hr5, hg5⟩; have b3 := b3 (by omega); obtain ⟨z, hel, hel'⟩ := of_two (1990 + v1) (100 * v2) v3 a3 b3; have hlt4 := hr4.lt; (first | (have k1 := cell_kept hg5 hlt4 v3.toNat; rw [hel] at k1; skip) | skip)))
    | (go_at_call 30; ((with_reducible refine (pick_any w _ w.heap.size 3 14 hr5 (by omega)).mono ?_); rintro e w6 ⟨v4, a4, b4, _, rfl, hr6, hg6⟩; have hlt5 := hr5.lt; (first | (have k2 := cell_kept hg6 hlt5 v3.toNat; rw [hel] at k2) | (have k2 := kept_cell hg6 w4.heap.size v3.toNat (by omega) (by have := hg5.size; simp at this; omega); rw [k1] at k2) | skip)))
    | (go_at_call 30; ((with_reducible refine (pick_any w _ w.heap.size 3 14 (hr5.alloc _) (by omega)).mono ?_); rintro e w6 ⟨v4, a4, b4, _, rfl, hr6, hg6⟩; have hlt5 := hr5.lt; (first | (have k2 := cell_kept hg6 hlt5 v3.toNat; rw [hel] at k2) | (have k2 := kept_cell hg6 w4.heap.size v3.toNat (by omega) (by have := hg5.size; simp at this; omega); rw [k1] at k2) | skip))))
  all_goals
    go_wp2
    go_ret2
    exact ⟨_, _, rfl, by first | exact hr6.bel | exact hr6.bel.alloc hr6.bel.size _⟩
end Go.Proofs.Ytmlmedmopbhdjaa
