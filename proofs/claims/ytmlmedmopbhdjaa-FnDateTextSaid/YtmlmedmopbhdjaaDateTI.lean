/-
  The verifier's own text: DateTI.
-/
import Derived.Test.YtmlmedmopbhdjaaRows
import Derived.Test.YtmlmedmopbhdjaaDateI
import Derived.Test.YtmlmedmopbhdjaaDigT
import Derived.WalkKit
import Derived.ProofKit
import Derived.Below
import Derived.Lib.Hide
import Derived.Outline
import Derived.BigQuiet
import Derived.Deep.QuietTactic
import Derived.Deep.Draws
import Derived.Laws.OwnMore
import Derived.Laws.Rows
import Derived.WalkSpells
import Derived.Deep.RegionWith
namespace Go.Proofs.Ytmlmedmopbhdjaa
open Go.RowKit
set_option linter.unusedVariables false
theorem below_trans {a b c : World} (h : Below a.heap.size a b) (k : Below b.heap.size b c) : Below a.heap.size a c := h.trans (k.mono h.size)
theorem dateI_out (n : Int) (w : World) (h : n < 0 ∨ 1460969 < n) :
    Calls Try.prog 24 #[.int .i64 n] w (GotStr (dateT n) w) := by
  have hr := Lib.hid (dateT_out h)
  have hl := Lib.hid dby_last
  have t : decide (n < 0) = true ∨ (decide (n < 0) = false ∧ decide (1460970 ≤ n) = true) := by
    rcases h with h | h
    · exact .inl (decide_eq_true h)
    · exact .inr ⟨decide_eq_false (by omega), decide_eq_true (by omega)⟩
  clear h
  rcases t with t | ⟨t, t2⟩
  all_goals
    go_enter Try.func24, Try.ntmps24
    go_wp2_with (go_at_call 34; refine (dby_any 4001 _ (by omega) (by omega)).mono ?_; rintro e w' ⟨rfl, rfl⟩; rw [hl.out])
    go_ret
    exact ⟨by rw [hr.out]; rfl, Below.refl _ _⟩
theorem date_cat (y m d : Int) : bs (dg4 y) ++ ⟨#[46]⟩ ++ bs (dg2 m) ++ ⟨#[46]⟩ ++ bs (dg2 d) = bs (dateL y m d) := by
  rw [dateL_parts, ← bs_append, ← bs_append, ← bs_append, ← bs_append]; rfl
theorem dateI_in (y m d : Int) (w : World) (h : IsD y m d) :
    Calls Try.prog 24 #[.int .i64 (numD y m d)] w (GotStr (dateT (numD y m d)) w) := by
  have hr := Lib.hid (dateT_of h)
  have hl := Lib.hid dby_last
  have hy := yod_any y m d
  have hm := mod_any y m d
  obtain ⟨b1, b2, b3, b4⟩ := h.bd
  obtain ⟨r1, r2, r3, r4, r5, r6⟩ := isD_rng h
  have y1 := h.y1
  have y2 := h.y2
  have m1 := h.m1
  have m2 := h.m2
  have d1 := h.d1
  have e1 : Hid (numD y m d - dby y = dbm y m + d - 1) := Lib.hid (by unfold numD; omega)
  have e2 : Hid (dbm y m + d - 1 - dbm y m + 1 = d) := Lib.hid (by omega)
  have a1 := dby_bd y1 (by omega)
  have a2 := dbm_bd y m1 (by omega)
  obtain ⟨a11, a12⟩ := a1
  obtain ⟨a21, a22⟩ := a2
  clear b2
  go_enter Try.func24, Try.ntmps24
  go_wp2_with fail
  refine (dby_any 4001 _ (by omega) (by omega)).mono ?_
  rintro e w' ⟨rfl, rfl⟩
  rw [hl.out]
  go_wp2_with fail
  refine (hy _ h).mono ?_
  rintro e w' ⟨rfl, rfl⟩
  go_wp2_with fail
  refine (dby_any _ _ y1 (by omega)).mono ?_
  rintro e w' ⟨rfl, rfl⟩
  go_wp2_with fail
  rw [e1.out]
  refine (hm _ h).mono ?_
  rintro e w' ⟨rfl, rfl⟩
  go_wp2_with fail
  refine (dbm_any _ _ _ y1 y2 m1 (by omega)).mono ?_
  rintro e w' ⟨rfl, rfl⟩
  go_wp2_with fail
  refine (dig4_any _ _ r1 r2).mono ?_
  rintro e w1 ⟨rfl, hb1⟩
  have happ := bs_append
  go_wp2_with fail
  refine (dig2_any _ _ r3 r4).mono ?_
  rintro e w2 ⟨rfl, hb2⟩
  go_wp2_with fail
  rw [e2.out]
  refine (dig2_any _ _ r5 r6).mono ?_
  rintro e w3 ⟨rfl, hb3⟩
  have hb := Lib.hid (below_trans (below_trans hb1 hb2) hb3)
  go_wp2_with fail
  go_ret
  refine ⟨?_, hb.out⟩
  rw [hr.out, ← date_cat y m d]
  rfl
theorem dateI_any (n : Int) (w : World) :
    Calls Try.prog 24 #[.int .i64 n] w (GotStr (dateT n) w) := by
  by_cases h : n < 0 ∨ 1460969 < n
  · exact dateI_out n w h
  · obtain ⟨y, m, d, hd, rfl⟩ := date_of (n := n) (by omega) (by omega)
    exact dateI_in y m d w hd
end Go.Proofs.Ytmlmedmopbhdjaa
