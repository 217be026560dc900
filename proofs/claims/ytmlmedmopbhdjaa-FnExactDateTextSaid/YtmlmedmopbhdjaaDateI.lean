/-
  The verifier's own text: DateI.
-/
import Derived.Test.YtmlmedmopbhdjaaRows
import Derived.Test.YtmlmedmopbhdjaaDayI
import Derived.Laws.NewBlocks
import Derived.WalkKit
import Derived.ProofKit
import Derived.Below
import Derived.Lib.Hide
import Derived.Outline
import Derived.BigQuiet
import Derived.Deep.QuietTactic
import Derived.Deep.Draws
import Derived.Laws.OwnMore
import Derived.Laws.Rows
import Derived.WalkSpells
import Derived.Deep.RegionWith
namespace Go.Proofs.Ytmlmedmopbhdjaa
open Go.RowKit
set_option linter.unusedVariables false
def dsum (y m d : Int) : List UInt8 := dg4 y ++ [46] ++ dg2 m ++ [46] ++ dg2 d
theorem yod_any (y m d : Int) (w : World) (h : IsD y m d) :
    Calls Try.prog 37 #[.int .i64 (numD y m d)] w fun e w' => e = .returned (.int .i64 y) ∧ w = w' := by
  have hb := h.bd
  have y1 := h.y1
  have y2 := h.y2
  have hd := Lib.hid (show dby y ≤ numD y m d ∧ numD y m d < dby (y + 1) from ⟨hb.2.2.1, hb.2.1⟩)
  obtain ⟨n, hn⟩ : ∃ n, numD y m d = n := ⟨_, rfl⟩
  rw [hn] at hb hd ⊢
  obtain ⟨b1, _, _, b4⟩ := hb
  have g : Hid (∀ k : Int, 1 ≤ k → k ≤ 4000 → dby k ≤ n → k ≤ y) := Lib.hid (fun k a b c => by
    rcases Int.lt_or_le y k with l | l
    · have := dby_mono (a := y + 1) (b := k) (by omega) (by omega); have := hd.out; omega
    · exact l)
  have g0 : Hid (dby (n / 366 + 1) ≤ n) := Lib.hid (by unfold dby; omega)
  clear hn h
  go_enter Try.func37, Try.ntmps37
  go_wp2
  go_loop [3] (fun t => ∃ k : Int, 1 ≤ k ∧ k ≤ 4000 ∧ Hid (dby k ≤ n) ∧ t = .int .i64 k) (fun t => (4000 - intOf t).toNat)
  case atStart => exact ⟨n / 366 + 1, by omega, by omega, g0, rfl⟩
  case round =>
    obtain ⟨k, hk1, hk2, hk3, rfl⟩ := hrel
    have ky := g.out k hk1 hk2 hk3.out
    by_cases hlt : k < 4000
    · have q1 : decide (k < 4000) = true := decide_eq_true hlt
      by_cases hle : dby (k + 1) ≤ n
      · have hle' := Lib.hid hle
        go_wp2_with (go_at_call 34; refine (dby_any _ _ (by omega) (by omega)).mono ?_; rintro e w' ⟨rfl, rfl⟩)
        go_round
        case rel => exact ⟨k + 1, by omega, by omega, hle', rfl⟩
        case measure => simp [intOf]; omega
      · have e : Hid (k = y) := Lib.hid (by
          rcases Int.lt_or_le k y with l | l
          · have := dby_mono (a := k + 1) (b := y) (by omega) (by omega); have := hd.out; omega
          · omega)
        have hle' : decide (dby (k + 1) ≤ n) = false := decide_eq_false hle
        clear hle
        go_wp2_with (go_at_call 34; refine (dby_any _ _ (by omega) (by omega)).mono ?_; rintro e w' ⟨rfl, rfl⟩)
        go_ret
        exact ⟨ret_int e.out, rfl⟩
    · have e : Hid (k = y) := Lib.hid (by omega)
      have q1 : decide (k < 4000) = false := decide_eq_false hlt
      go_wp2
      go_ret
      exact ⟨ret_int e.out, rfl⟩
theorem mod_any (y m d : Int) (w : World) (h : IsD y m d) :
    Calls Try.prog 38 #[.int .i64 y, .int .i64 (dbm y m + d - 1)] w fun e w' => e = .returned (.int .i64 m) ∧ w = w' := by
  obtain ⟨y1, y2, m1, m2, d1, d2⟩ := h
  have hd : Hid (dbm y m ≤ dbm y m + d - 1 ∧ dbm y m + d - 1 < dbm y (m + 1)) := Lib.hid ⟨by omega, by rw [dbm_succ y m1 m2]; omega⟩
  obtain ⟨n, hn⟩ : ∃ n, dbm y m + d - 1 = n := ⟨_, rfl⟩
  rw [hn] at hd ⊢
  have g : Hid (∀ k : Int, 1 ≤ k → k ≤ 12 → dbm y k ≤ n → k ≤ m) := Lib.hid (fun k a b c => by
    rcases Int.lt_or_le m k with l | l
    · have := dbm_mono y (m := m + 1) (k := k) (by omega) (by omega) (by omega); have := hd.out; omega
    · exact l)
  have g0 : Hid (dbm y 1 ≤ n) := Lib.hid (by rw [dbm_one]; have := dbm_bd y m1 (by omega); omega)
  clear hn
  go_enter Try.func38, Try.ntmps38
  go_wp2
  go_loop [5] (fun t => ∃ k : Int, 1 ≤ k ∧ k ≤ 12 ∧ Hid (dbm y k ≤ n) ∧ t = .int .i64 k) (fun t => (12 - intOf t).toNat)
  case atStart => exact ⟨1, by omega, by omega, g0, rfl⟩
  case round =>
    obtain ⟨k, hk1, hk2, hk3, rfl⟩ := hrel
    have ky := g.out k hk1 hk2 hk3.out
    by_cases hlt : k < 12
    · have q1 : decide (k < 12) = true := decide_eq_true hlt
      by_cases hle : dbm y (k + 1) ≤ n
      · have hle' := Lib.hid hle
        go_wp2_with (go_at_call 35; refine (dbm_any _ _ _ (by omega) (by omega) (by omega) (by omega)).mono ?_; rintro e w' ⟨rfl, rfl⟩)
        go_round
        case rel => exact ⟨k + 1, by omega, by omega, hle', rfl⟩
        case measure => simp [intOf]; omega
      · have e : Hid (k = m) := Lib.hid (by
          rcases Int.lt_or_le k m with l | l
          · have := dbm_mono y (m := k + 1) (k := m) (by omega) (by omega) (by omega); have := hd.out; omega
          · omega)
        have hle' : decide (dbm y (k + 1) ≤ n) = false := decide_eq_false hle
        clear hle
        go_wp2_with (go_at_call 35; refine (dbm_any _ _ _ (by omega) (by omega) (by omega) (by omega)).mono ?_; rintro e w' ⟨rfl, rfl⟩)
        go_ret
        exact ⟨ret_int e.out, rfl⟩
    · have e : Hid (k = m) := Lib.hid (by omega)
      have q1 : decide (k < 12) = false := decide_eq_false hlt
      go_wp2
      go_ret
      exact ⟨ret_int e.out, rfl⟩
end Go.Proofs.Ytmlmedmopbhdjaa
