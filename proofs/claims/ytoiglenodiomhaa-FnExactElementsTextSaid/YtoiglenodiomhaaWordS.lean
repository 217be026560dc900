/-
  The verifier's own text: WordS.
-/
import Derived.Test.YtoiglenodiomhaaRows
import Derived.Test.YtoiglenodiomhaaIn
import Derived.WalkKit
import Derived.ProofKit
import Derived.Below
import Derived.Lib.Hide
import Derived.Outline
import Derived.BigQuiet
import Derived.Deep.QuietTactic
import Derived.Deep.Draws
import Derived.Laws.OwnMore
import Derived.Laws.Rows
import Derived.WalkSpells
import Derived.Deep.RegionWith
namespace Go.Proofs.Ytoiglenodiomhaa
open Go.RowKit
set_option linter.unusedVariables false
set_option maxHeartbeats 400000 in
theorem sword_any (s : ByteArray) (w : World) (hs : s.size ≤ maxLen) :
    Calls Try.prog 34 #[.string s] w fun e w' => e = .returned (.bool (wordB s.data.toList)) ∧ w = w' := by
  unfold maxLen at hs
  go_enter Try.func34, Try.ntmps34
  go_wp2
  go_loop [3] (fun i => ∃ k : Nat, k ≤ s.size ∧ i = .int .i64 k ∧ PreW s.data.toList k) (fun i => s.size - (intOf i).toNat)
  case atStart => exact ⟨0, Nat.zero_le _, rfl, preW_zero _⟩
  case round =>
    obtain ⟨k, hk, rfl, hp⟩ := hrel
    by_cases hlt : k < s.size
    · by_cases ha : 97 ≤ (s[k].toNat : Int) ∧ (s[k].toNat : Int) ≤ 122
      · obtain ⟨a, b⟩ := ha
        have hp' := preW_sml hlt hp a b
        go_wp2
        go_round
        case rel => exact ⟨k + 1, by omega, by go_num, hp'⟩
        case measure => simp [intOf]; omega
      · have a : decide (97 ≤ (s[k].toNat : Int)) = false ∨ (decide (97 ≤ (s[k].toNat : Int)) = true ∧ decide ((s[k].toNat : Int) ≤ 122) = false) := by simp; omega
        have a' : (s[k].toNat : Int) < 97 ∨ 122 < (s[k].toNat : Int) := by omega
        clear ha
        by_cases hb : 0 < k ∧ 48 ≤ (s[k].toNat : Int) ∧ (s[k].toNat : Int) ≤ 57
        · obtain ⟨h0, b, c⟩ := hb
          have hp' := preW_dig hlt h0 hp b c
          have k0 : ((k : Int) == 0) = false := by simp; omega
          have b1 : decide ((s[k].toNat : Int) < 48) = false := by simp; omega
          have b2 : decide (57 < (s[k].toNat : Int)) = false := by simp; omega
          clear a' b c
          rcases a with a | ⟨a, a2⟩
          all_goals
            go_wp2
            go_round
            case rel => exact ⟨k + 1, by omega, by go_num, hp'⟩
            case measure => simp [intOf]; omega
        · have hr : Hid (wordB s.data.toList = false) := by
            by_cases h0 : k = 0
            · subst h0; exact Lib.hid (word_bad0 hlt a')
            · exact Lib.hid (word_badk hlt a' (by omega))
          by_cases h0 : k = 0
          · subst h0
            clear a' hb
            rcases a with a | ⟨a, a2⟩
            all_goals
              go_wp2
              go_ret
              exact ⟨ret_bool hr.out.symm, rfl⟩
          · have h0' : 0 < k := by omega
            have b : (s[k].toNat : Int) < 48 ∨ 57 < (s[k].toNat : Int) := by omega
            have b' : decide ((s[k].toNat : Int) < 48) = true ∨ (decide ((s[k].toNat : Int) < 48) = false ∧ decide (57 < (s[k].toNat : Int)) = true) := by simp; omega
            clear hb h0 a' b
            rcases a with a | ⟨a, a2⟩ <;> rcases b' with b | ⟨b, b2⟩
            all_goals
              go_wp2
              go_ret
              exact ⟨ret_bool hr.out.symm, rfl⟩
    · have hr := Lib.hid (word_pre (by omega) hk hp)
      go_wp2_with (go_at_call 52; refine (l1In_any _ _ _ _).mono ?_; rintro e w' ⟨rfl, rfl⟩)
      go_ret
      exact ⟨ret_bool hr.out, rfl⟩
end Go.Proofs.Ytoiglenodiomhaa
