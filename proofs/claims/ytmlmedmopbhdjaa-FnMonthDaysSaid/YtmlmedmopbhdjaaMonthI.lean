/-
  The verifier's own text: MonthI.
-/
import Derived.Test.YtmlmedmopbhdjaaRows
import Derived.Test.YtmlmedmopbhdjaaLeapI
import Derived.WalkKit
import Derived.ProofKit
import Derived.Below
import Derived.Lib.Hide
import Derived.Outline
import Derived.BigQuiet
import Derived.Deep.QuietTactic
import Derived.Deep.Draws
import Derived.Laws.OwnMore
import Derived.Laws.Rows
import Derived.WalkSpells
import Derived.Deep.RegionWith
namespace Go.Proofs.Ytmlmedmopbhdjaa
open Go.RowKit
set_option linter.unusedVariables false
theorem monthI_out (y m : Int) (w : World) (h : y < 1 ∨ 4000 < y) :
    Calls Try.prog 16 #[.int .i64 y, .int .i64 m] w fun e w' => e = .returned (.int .i64 (mdays y m)) ∧ w = w' := by
  have hr := Lib.hid (mdays_out (y := y) (m := m) (by omega))
  rcases h with h | h
  all_goals
    go_enter Try.func16, Try.ntmps16
    go_wp2
    go_ret
    exact ⟨ret_int hr.out.symm, rfl⟩
theorem monthI_bad (y m : Int) (w : World) (a : 1 ≤ y) (b : y ≤ 4000) (h : m < 1 ∨ 12 < m) :
    Calls Try.prog 16 #[.int .i64 y, .int .i64 m] w fun e w' => e = .returned (.int .i64 (mdays y m)) ∧ w = w' := by
  have hr := Lib.hid (mdays_out (y := y) (m := m) (by omega))
  have m1 : (m == 1) = false := by simp; omega
  have m2 : (m == 2) = false := by simp; omega
  have m3 : (m == 3) = false := by simp; omega
  have m4 : (m == 4) = false := by simp; omega
  have m5 : (m == 5) = false := by simp; omega
  have m6 : (m == 6) = false := by simp; omega
  have m7 : (m == 7) = false := by simp; omega
  have m8 : (m == 8) = false := by simp; omega
  have m9 : (m == 9) = false := by simp; omega
  have m10 : (m == 10) = false := by simp; omega
  have m11 : (m == 11) = false := by simp; omega
  have m12 : (m == 12) = false := by simp; omega
  clear h
  go_enter Try.func16, Try.ntmps16
  go_wp2
  go_ret
  exact ⟨ret_int hr.out.symm, rfl⟩
set_option maxHeartbeats 800000 in
theorem monthI_in (y m : Int) (w : World) (a : 1 ≤ y) (b : y ≤ 4000) (c : 1 ≤ m) (d : m ≤ 12) :
    Calls Try.prog 16 #[.int .i64 y, .int .i64 m] w fun e w' => e = .returned (.int .i64 (mdays y m)) ∧ w = w' := by
  have hr := Lib.hid (mdays_in a b c d)
  obtain rfl | rfl | rfl | rfl | rfl | rfl | rfl | rfl | rfl | rfl | rfl | rfl := m12 c d
  all_goals
    clear c d
    go_enter Try.func16, Try.ntmps16
    go_wp2_with (go_at_call 32; refine (feb_any _ _).mono ?_; rintro e w' ⟨rfl, rfl⟩)
    go_ret
    exact ⟨ret_int (by rw [hr.out]; rfl), rfl⟩
theorem monthI_any (y m : Int) (w : World) :
    Calls Try.prog 16 #[.int .i64 y, .int .i64 m] w fun e w' => e = .returned (.int .i64 (mdays y m)) ∧ w = w' := by
  by_cases h : y < 1 ∨ 4000 < y
  · exact monthI_out y m w h
  · by_cases h2 : m < 1 ∨ 12 < m
    · exact monthI_bad y m w (by omega) (by omega) h2
    · exact monthI_in y m w (by omega) (by omega) (by omega) (by omega)
end Go.Proofs.Ytmlmedmopbhdjaa
