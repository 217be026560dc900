/-
  The verifier's own text: DayI.
-/
import Derived.Test.YtmlmedmopbhdjaaRows
import Derived.Test.YtmlmedmopbhdjaaMonthI
import Derived.WalkKit
import Derived.ProofKit
import Derived.Below
import Derived.Lib.Hide
import Derived.Outline
import Derived.BigQuiet
import Derived.Deep.QuietTactic
import Derived.Deep.Draws
import Derived.Laws.OwnMore
import Derived.Laws.Rows
import Derived.WalkSpells
import Derived.Deep.RegionWith
namespace Go.Proofs.Ytmlmedmopbhdjaa
open Go.RowKit
set_option linter.unusedVariables false
theorem dby_any (y : Int) (w : World) (a : 1 ≤ y) (b : y ≤ 4001) :
    Calls Try.prog 34 #[.int .i64 y] w fun e w' => e = .returned (.int .i64 (dby y)) ∧ w = w' := by
  have hr : Hid (dby y = (y - 1) * 365 + (y - 1) / 4 - (y - 1) / 100 + (y - 1) / 400) := Lib.hid (by unfold dby; omega)
  go_enter Try.func34, Try.ntmps34
  go_wp2
  go_ret
  exact ⟨ret_int hr.out.symm, rfl⟩
theorem dbm_any (y m : Int) (w : World) (a : 1 ≤ y) (b : y ≤ 4000) (c : 1 ≤ m) (d : m ≤ 12) :
    Calls Try.prog 35 #[.int .i64 y, .int .i64 m] w fun e w' => e = .returned (.int .i64 (dbm y m)) ∧ w = w' := by
  have e1 := Lib.hid (dbm_one y)
  go_enter Try.func35, Try.ntmps35
  go_wp2
  go_loop [5, 6] (fun t i => ∃ k : Int, 1 ≤ k ∧ k ≤ m ∧ i = .int .i64 k ∧ t = .int .i64 (dbm y k)) (fun _ i => (m - intOf i).toNat)
  case atStart => exact ⟨1, by omega, by omega, rfl, by rw [e1.out]⟩
  case round =>
    obtain ⟨k, hk1, hk2, rfl, rfl⟩ := hrel
    by_cases hlt : k < m
    · have hs := Lib.hid (dbm_succ y hk1 (by omega))
      have hm := Lib.hid (mdays_in a b hk1 (by omega : k ≤ 12))
      have b1 := dbm_bd y hk1 (by omega)
      have b2 := mdays_bd y k
      obtain ⟨b11, b12⟩ := b1
      obtain ⟨b21, b22⟩ := b2
      go_wp2_with (go_at_call 16; refine (monthI_any _ _ _).mono ?_; rintro e w' ⟨rfl, rfl⟩)
      go_round
      case rel => exact ⟨k + 1, by omega, by omega, rfl, by rw [hs.out, hm.out]⟩
      case measure => simp [intOf]; omega
    · have e : k = m := by omega
      subst e
      go_wp2
      go_ret
      exact ⟨rfl, rfl⟩
theorem dayI_any (y m d : Int) (w : World) :
    Calls Try.prog 21 #[.int .i64 y, .int .i64 m, .int .i64 d] w fun e w' => e = .returned (.int .i64 (dayN y m d)) ∧ w = w' := by
  by_cases h : 1 ≤ d ∧ d ≤ mdays y m
  · have hi := isD_of h.1 h.2
    have hr := Lib.hid (dayN_in hi)
    obtain ⟨a1, a2, a3, a4, a5, a6⟩ := hi
    have b1 := dby_bd a1 (by omega)
    have b2 := dbm_bd y a3 (by omega)
    have b3 := md12_bd y m
    obtain ⟨b11, b12⟩ := b1
    obtain ⟨b21, b22⟩ := b2
    obtain ⟨b31, b32⟩ := b3
    obtain ⟨h1, h2⟩ := h
    have hd : d ≤ 31 := by omega
    clear a6
    go_enter Try.func21, Try.ntmps21
    go_wp2_with (first | (go_at_call 16; refine (monthI_any _ _ _).mono ?_; rintro e w' ⟨rfl, rfl⟩) | (go_at_call 34; refine (dby_any _ _ (by omega) (by omega)).mono ?_; rintro e w' ⟨rfl, rfl⟩) | (go_at_call 35; refine (dbm_any _ _ _ (by omega) (by omega) (by omega) (by omega)).mono ?_; rintro e w' ⟨rfl, rfl⟩))
    go_ret
    exact ⟨ret_int (by rw [hr.out]; unfold numD; rfl), rfl⟩
  · have h' : d < 1 ∨ mdays y m < d := by omega
    have hr := Lib.hid (dayN_no h')
    have t : decide (d < 1) = true ∨ (decide (d < 1) = false ∧ decide (mdays y m < d) = true) := by
      by_cases q : d < 1
      · exact .inl (decide_eq_true q)
      · exact .inr ⟨decide_eq_false q, decide_eq_true (by omega)⟩
    clear h h'
    rcases t with t | ⟨t, t2⟩
    all_goals
      go_enter Try.func21, Try.ntmps21
      go_wp2_with (go_at_call 16; refine (monthI_any _ _ _).mono ?_; rintro e w' ⟨rfl, rfl⟩)
      go_ret
      exact ⟨ret_int hr.out.symm, rfl⟩
end Go.Proofs.Ytmlmedmopbhdjaa
