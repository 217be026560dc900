/-
  The verifier's own text: DPlain.
-/
import Derived.Test.YtiacpbahjfellaaRows
import Derived.Test.YtiacpbahjfellaaGh
import Derived.WalkKit
import Derived.ProofKit
import Derived.Below
import Derived.Lib.Hide
import Derived.Outline
import Derived.BigQuiet
import Derived.Deep.QuietTactic
import Derived.Deep.Draws
import Derived.Laws.OwnMore
import Derived.Laws.Rows
import Derived.WalkSpells
import Derived.Deep.RegionWith
namespace Go.Proofs.Ytiacpbahjfellaa
open Go.RowKit
set_option linter.unusedVariables false
set_option maxRecDepth 100000 in
set_option maxHeartbeats 1000000 in
theorem drawPlain_any (w : World) (A : Option Addr) (n c : Nat) (h : CodeArg w A n c) : Calls Try.prog 21 #[.slice A n c] w (DrawnStr w 81) := by
  go_enter Try.func21, Try.ntmps21
  go_wp2_with (go_at_call 25; refine (open_any w A n c h).mono ?_; rintro e w2 ⟨rfl, hr2⟩)
  refine (pick_any w w2 w.heap.size 0 9 hr2 (by omega)).mono ?_
  rintro e w3 ⟨v, a3, b3, _, rfl, hr3, _⟩
  have b3 := b3 (by omega)
  obtain ⟨j, rfl⟩ : ∃ j : Nat, v = j := ⟨v.toNat, by omega⟩
  have hj : j ≤ 8 := by omega
  have hr3' := Lib.hid (hr3.more (m' := 10) (by omega))
  clear a3 b3
  go_wp2
  go_loopw [4, 5] (fun t i wr => ∃ (k : Nat) (s : ByteArray), k ≤ 8 ∧ i = .int .i64 k ∧ t = .string s ∧ s.size + 4 * k ≤ 32 ∧ Hid (Rd w wr w.heap.size (10 + (8 - k)))) (fun _ i _ => (intOf i).toNat)
  case atStart => exact ⟨j, _, hj, rfl, rfl, by show 0 + 4 * j ≤ 32; omega, Lib.hid (hr3'.out.more (by omega))⟩
  case round =>
    obtain ⟨k, s, hk, rfl, rfl, hs, hr⟩ := hrel
    by_cases h0 : k = 0
    · subst h0
      go_wp2_with fail
      refine (odd_any w _ w.heap.size 18 9 hr.out (by omega) (by omega) (by omega)).mono ?_
      rintro e w5 ⟨b, rfl, hr5, _⟩
      rcases b with _ | _
      · go_wp2
        go_ret
        exact ⟨_, by omega, rfl, hr5.bel⟩
      · go_wp2_with fail
        refine (text_draw w w5 w.heap.size 19 1 hr5 (by omega) (by omega) (by omega)).mono ?_
        rintro e w6 ⟨s2, hs2, rfl, hr6, _⟩
        go_wp2
        go_ret
        exact ⟨_, hs2, rfl, hr6.bel⟩
    · have hpos : 0 < k := by omega
      clear h0
      have hr' := hr.out
      go_wp2_with fail
      refine (pick_any w _ w.heap.size (10 + (8 - k)) 6 (hr'.alloc _) (by omega)).mono ?_
      rintro e w4 ⟨v4, a4, b4, _, rfl, hr4, hg4⟩
      have b4 := b4 (by omega)
      have k0 := cell_kept hg4 hr'.lt
      have hr4 := Lib.hid (hr4.more (m' := 10 + (8 - (k - 1))) (by omega))
      clear hg4 hr'
      have s1 : ∀ t : ByteArray, t.size ≤ 4 → s.size + t.size ≤ 9223372036854775807 := by intro t ht; omega
      have t1 := s1 ⟨#[97]⟩ (by decide)
      have t2 := s1 ⟨#[60]⟩ (by decide)
      have t3 := s1 ⟨#[62]⟩ (by decide)
      have t4 := s1 ⟨#[60, 98, 62]⟩ (by decide)
      have t5 := s1 ⟨#[60, 47, 98, 62]⟩ (by decide)
      have t6 := s1 ⟨#[32]⟩ (by decide)
      clear s1
      obtain rfl | rfl | rfl | rfl | rfl | rfl : v4 = 0 ∨ v4 = 1 ∨ v4 = 2 ∨ v4 = 3 ∨ v4 = 4 ∨ v4 = 5 := by omega
      all_goals
        go_wp2
        go_roundw
        case rel => exact ⟨k - 1, _, by omega, by go_num, rfl, by rw [ByteArray.size_append]; exact (fun (t : ByteArray) (ht : t.size ≤ 4) => (by omega : s.size + t.size + 4 * (k - 1) ≤ 32)) _ (by decide), hr4⟩
        case measure => simp [intOf]; omega
end Go.Proofs.Ytiacpbahjfellaa
