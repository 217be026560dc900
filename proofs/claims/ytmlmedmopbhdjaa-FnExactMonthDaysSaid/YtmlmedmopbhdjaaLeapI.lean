/-
  The verifier's own text: LeapI.
-/
import Derived.Test.YtmlmedmopbhdjaaRows
import Derived.Test.YtmlmedmopbhdjaaDaysMath
import Derived.WalkKit
import Derived.ProofKit
import Derived.Below
import Derived.Lib.Hide
import Derived.Outline
import Derived.BigQuiet
import Derived.Deep.QuietTactic
import Derived.Deep.Draws
import Derived.Laws.OwnMore
import Derived.Laws.Rows
import Derived.WalkSpells
import Derived.Deep.RegionWith
namespace Go.Proofs.Ytmlmedmopbhdjaa
open Go.RowKit
set_option linter.unusedVariables false
theorem leap_cases (y : Int) : (leapB y = false ∧ (y < 1 ∨ 4000 < y)) ∨ (1 ≤ y ∧ y ≤ 4000 ∧ leapB y = false ∧ ((y % 4 == 0) = false ∧ (y % 400 == 0) = false)) ∨ (1 ≤ y ∧ y ≤ 4000 ∧ leapB y = false ∧ ((y % 4 == 0) = true ∧ (y % 100 != 0) = false ∧ (y % 400 == 0) = false)) ∨ (1 ≤ y ∧ y ≤ 4000 ∧ leapB y = true ∧ ((y % 4 == 0) = true ∧ (y % 100 != 0) = true)) ∨ (1 ≤ y ∧ y ≤ 4000 ∧ leapB y = true ∧ ((y % 4 == 0) = true ∧ (y % 100 != 0) = false ∧ (y % 400 == 0) = true)) := by
  by_cases a : y < 1 ∨ 4000 < y
  · exact .inl ⟨by simp [leapB]; omega, a⟩
  · have a1 : 1 ≤ y := by omega
    have a2 : y ≤ 4000 := by omega
    by_cases b : y % 4 = 0
    · by_cases c : y % 100 = 0
      · by_cases d : y % 400 = 0
        · exact .inr (.inr (.inr (.inr ⟨a1, a2, by simp [leapB]; omega, by simp [b], by simp [c], by simp [d]⟩)))
        · exact .inr (.inr (.inl ⟨a1, a2, by simp [leapB]; omega, by simp [b], by simp [c], by simp [d]⟩))
      · exact .inr (.inr (.inr (.inl ⟨a1, a2, by simp [leapB]; omega, by simp [b], by simp [c]⟩)))
    · exact .inr (.inl ⟨a1, a2, by simp [leapB]; omega, by simp [b], by simp; omega⟩)
theorem leapI_any (y : Int) (w : World) :
    Calls Try.prog 14 #[.int .i64 y] w fun e w' => e = .returned (.bool (leapB y)) ∧ w = w' := by
  obtain ⟨l, h⟩ | ⟨a, b, l, c, d⟩ | ⟨a, b, l, c, d, f⟩ | ⟨a, b, l, c, d⟩ | ⟨a, b, l, c, d, f⟩ := leap_cases y
  · have hr := Lib.hid l
    clear l
    rcases h with h | h
    all_goals
      go_enter Try.func14, Try.ntmps14
      go_wp2
      go_ret
      exact ⟨ret_bool hr.out.symm, rfl⟩
  all_goals
    have hr := Lib.hid l
    clear l
    go_enter Try.func14, Try.ntmps14
    go_wp2
    go_ret
    exact ⟨ret_bool hr.out.symm, rfl⟩
theorem feb_any (y : Int) (w : World) :
    Calls Try.prog 32 #[.int .i64 y] w fun e w' => e = .returned (.int .i64 (28 + lpI y)) ∧ w = w' := by
  rcases h : leapB y with _ | _
  · have hr := Lib.hid (lpI_f h)
    have HL := Lib.hid h
    clear h
    go_enter Try.func32, Try.ntmps32
    go_wp2_with (go_at_call 14; refine (leapI_any _ _).mono ?_; rintro e w' ⟨rfl, rfl⟩; rw [HL.out])
    go_ret
    exact ⟨ret_int (by rw [hr.out]; rfl), rfl⟩
  · have hr := Lib.hid (lpI_t h)
    have HL := Lib.hid h
    clear h
    go_enter Try.func32, Try.ntmps32
    go_wp2_with (go_at_call 14; refine (leapI_any _ _).mono ?_; rintro e w' ⟨rfl, rfl⟩; rw [HL.out])
    go_ret
    exact ⟨ret_int (by rw [hr.out]; rfl), rfl⟩
end Go.Proofs.Ytmlmedmopbhdjaa
