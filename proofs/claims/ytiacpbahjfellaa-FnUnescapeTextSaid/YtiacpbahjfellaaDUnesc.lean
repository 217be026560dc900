/-
  The verifier's own text: DUnesc.
-/
import Derived.Test.YtiacpbahjfellaaRows
import Derived.Test.YtiacpbahjfellaaGh
import Derived.Test.YtiacpbahjfellaaGd
import Derived.WalkKit
import Derived.ProofKit
import Derived.Below
import Derived.Lib.Hide
import Derived.Outline
import Derived.BigQuiet
import Derived.Deep.QuietTactic
import Derived.Deep.Draws
import Derived.Laws.OwnMore
import Derived.Laws.Rows
import Derived.WalkSpells
import Derived.Deep.RegionWith
namespace Go.Proofs.Ytiacpbahjfellaa
open Go.RowKit
set_option linter.unusedVariables false
theorem esc_short2 (l : List UInt8) : (bs (escT l)).size ≤ 480 := by rw [bs_size]; exact escT_len l
set_option maxRecDepth 100000 in
set_option maxHeartbeats 1000000 in
theorem drawUnesc_any (w : World) (A : Option Addr) (n c : Nat) (h : CodeArg w A n c) : Calls Try.prog 19 #[.slice A n c] w (DrawnStr w 481) := by
  go_enter Try.func19, Try.ntmps19
  go_wp2_with (go_at_call 25; refine (open_any w A n c h).mono ?_; rintro e w2 ⟨rfl, hr2⟩)
  refine (text_draw w w2 w.heap.size 0 0 hr2 (by omega) (by omega) (by omega)).mono ?_
  rintro e w3 ⟨s0, hs0, rfl, hr3, _⟩
  go_wp2_with fail
  refine (escS_any s0 _ (by unfold maxLen; omega)).mono ?_
  rintro e w4 ⟨rfl, rfl⟩
  have hs := esc_short2 s0.data.toList
  obtain ⟨s, hs'⟩ : ∃ s, bs (escT s0.data.toList) = s := ⟨_, rfl⟩
  rw [hs'] at hs ⊢
  clear hs'
  go_wp2_with fail
  refine (odd_any w _ w.heap.size 2 3 hr3 (by omega) (by omega) (by omega)).mono ?_
  rintro e w5 ⟨b, rfl, hr5, _⟩
  have z1 : (⟨#[38]⟩ : ByteArray).size = 1 := rfl
  have z2 : (⟨#[60]⟩ : ByteArray).size = 1 := rfl
  have s1 : s.size + (⟨#[38]⟩ : ByteArray).size ≤ 9223372036854775807 := by omega
  have s2 : s.size + (⟨#[60]⟩ : ByteArray).size ≤ 9223372036854775807 := by omega
  have l1 : (s ++ ⟨#[38]⟩ : ByteArray).size ≤ 481 := by rw [ByteArray.size_append]; omega
  have l2 : (s ++ ⟨#[60]⟩ : ByteArray).size ≤ 481 := by rw [ByteArray.size_append]; omega
  have L1 := Lib.hid l1
  have L2 := Lib.hid l2
  clear l1 l2 z1 z2
  rcases b with _ | _
  · go_wp2
    go_ret
    exact ⟨_, by omega, rfl, hr5.bel⟩
  · go_wp2_with fail
    refine (pick_any w _ w.heap.size 3 10 (hr5.alloc _) (by omega)).mono ?_
    rintro e w6 ⟨v4, a4, b4, _, rfl, hr6, hg6⟩
    have b4 := b4 (by omega)
    have k0 := cell_kept hg6 hr5.lt
    clear hg6
    obtain rfl | rfl | rfl | rfl | rfl | rfl | rfl | rfl | rfl | rfl : v4 = 0 ∨ v4 = 1 ∨ v4 = 2 ∨ v4 = 3 ∨ v4 = 4 ∨ v4 = 5 ∨ v4 = 6 ∨ v4 = 7 ∨ v4 = 8 ∨ v4 = 9 := by omega
    all_goals
      go_wp2
      go_ret
      first
        | exact ⟨_, by decide, rfl, hr6.bel⟩
        | exact ⟨_, L1.out, rfl, hr6.bel⟩
        | exact ⟨_, L2.out, rfl, hr6.bel⟩
end Go.Proofs.Ytiacpbahjfellaa
