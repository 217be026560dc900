/-
  The verifier's own text: DRDate.
-/
import Derived.Test.YtmlmedmopbhdjaaRows
import Derived.Test.YtmlmedmopbhdjaaDDay
import Derived.Test.YtmlmedmopbhdjaaDateTS
import Derived.WalkKit
import Derived.ProofKit
import Derived.Below
import Derived.Lib.Hide
import Derived.Outline
import Derived.BigQuiet
import Derived.Deep.QuietTactic
import Derived.Deep.Draws
import Derived.Laws.OwnMore
import Derived.Laws.Rows
import Derived.WalkSpells
import Derived.Deep.RegionWith
namespace Go.Proofs.Ytmlmedmopbhdjaa
open Go.RowKit
set_option linter.unusedVariables false
theorem grown_below {a b : World} (h : Below a.heap.size a b) (row : Option Nat) : a.grownBy b row := ⟨h.os, h.tape, h.output, h.size, fun k hk _ => h.block k hk⟩
theorem Rd.below {W w w' : World} {g m : Nat} (h : Rd W w g m) (hb : Below w.heap.size w w') : Rd W w' g m := h.grown (grown_below hb none) (by simp) (by simp)
theorem date_short (n : Int) : (bs (dateT n)).size ≤ 10 := by rw [bs_size]; exact dateT_len n
set_option maxHeartbeats 1000000 in
theorem drawRDate_any (w : World) (A : Option Addr) (n c : Nat) (h : CodeArg w A n c) : Calls Try.prog 27 #[.slice A n c] w (DrawnStr w 11) := by
  go_enter Try.func27, Try.ntmps27
  go_wp2_with (go_at_call 29; refine (open_any w A n c h).mono ?_; rintro e w2 ⟨rfl, hr2⟩)
  refine (day_draw w _ w.heap.size 0 hr2 (by omega)).mono ?_
  rintro e w3 ⟨v, rfl, hr3, hg3⟩
  clear hg3
  go_wp2_with fail
  refine (dateS_any _ _).mono ?_
  rintro e w4 ⟨rfl, hb4⟩
  have hr4 := hr3.below hb4
  have hs := date_short v
  obtain ⟨s, hs'⟩ : ∃ s, bs (dateT v) = s := ⟨_, rfl⟩
  rw [hs'] at hs ⊢
  clear hb4 hs'
  go_wp2_with fail
  refine (odd_any w w4 w.heap.size 4 3 hr4 (by omega) (by omega) (by omega)).mono ?_
  rintro e w5 ⟨b, rfl, hr5, _⟩
  have z1 : (⟨#[48]⟩ : ByteArray).size = 1 := rfl
  have s1 : s.size + (⟨#[48]⟩ : ByteArray).size ≤ 9223372036854775807 := by omega
  have l1 : (s ++ ⟨#[48]⟩ : ByteArray).size ≤ 11 := by rw [ByteArray.size_append]; omega
  have L1 := Lib.hid l1
  clear l1 z1
  rcases b with _ | _
  · go_wp2
    go_ret
    exact ⟨_, by omega, rfl, hr5.bel⟩
  · go_wp2_with fail
    refine (pick_any w _ w.heap.size 5 10 (hr5.alloc _) (by omega)).mono ?_
    rintro e w6 ⟨v4, a4, b4, _, rfl, hr6, hg6⟩
    have b4 := b4 (by omega)
    have k0 := cell_kept hg6 hr5.lt
    clear hg6
    obtain rfl | rfl | rfl | rfl | rfl | rfl | rfl | rfl | rfl | rfl : v4 = 0 ∨ v4 = 1 ∨ v4 = 2 ∨ v4 = 3 ∨ v4 = 4 ∨ v4 = 5 ∨ v4 = 6 ∨ v4 = 7 ∨ v4 = 8 ∨ v4 = 9 := by omega
    all_goals
      go_wp2
      go_ret
      first
        | exact ⟨_, by decide, rfl, hr6.bel⟩
        | exact ⟨_, L1.out, rfl, hr6.bel⟩
end Go.Proofs.Ytmlmedmopbhdjaa
