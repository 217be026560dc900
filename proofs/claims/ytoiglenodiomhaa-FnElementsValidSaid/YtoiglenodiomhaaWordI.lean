/-
  The verifier's own text: WordI.
-/
import Derived.Test.YtoiglenodiomhaaRows
import Derived.Test.YtoiglenodiomhaaPlain
import Derived.WalkKit
import Derived.ProofKit
import Derived.Below
import Derived.Lib.Hide
import Derived.Outline
import Derived.BigQuiet
import Derived.Deep.QuietTactic
import Derived.Deep.Draws
import Derived.Laws.OwnMore
import Derived.Laws.Rows
import Derived.WalkSpells
import Derived.Deep.RegionWith
namespace Go.Proofs.Ytoiglenodiomhaa
open Go.RowKit
set_option linter.unusedVariables false
theorem isDigit_any (n : Int) (w : World) :
    Calls Try.prog 50 #[.int .u8 n] w fun e w' => e = .returned (.bool (digI n)) ∧ w = w' := by
  go_enter Try.func50, Try.ntmps50
  go_wp2
  all_goals (go_ret; exact ⟨ret_bool (by simp [digI]; omega), rfl⟩)
theorem isSmall_any (n : Int) (w : World) :
    Calls Try.prog 51 #[.int .u8 n] w fun e w' => e = .returned (.bool (smlI n)) ∧ w = w' := by
  go_enter Try.func51, Try.ntmps51
  go_wp2
  all_goals (go_ret; exact ⟨ret_bool (by simp [smlI]; omega), rfl⟩)
set_option maxHeartbeats 400000 in
theorem word_any (s : ByteArray) (w : World) (hs : s.size ≤ maxLen) :
    Calls Try.prog 32 #[.string s] w fun e w' => e = .returned (.bool (wordB s.data.toList)) ∧ w = w' := by
  unfold maxLen at hs
  by_cases h0 : s.size < 1 ∨ 8 < s.size
  · have hr := Lib.hid (word_short h0)
    go_enter Try.func32, Try.ntmps32
    rcases h0 with h0 | h0 <;> go_wp2 <;> go_ret <;> exact ⟨ret_bool hr.out.symm, rfl⟩
  · have h1 : 1 ≤ s.size := by omega
    have h2 : s.size ≤ 8 := by omega
    clear h0
    rcases hd : digI (s[0].toNat : Int) with _ | _
    · have HD := Lib.hid hd
      go_enter Try.func32, Try.ntmps32
      go_wp2_with (go_at_call 50; refine (isDigit_any _ _).mono ?_; rintro e w' ⟨rfl, rfl⟩)
      clear hd
      go_loop [3] (fun i => ∃ k : Nat, k ≤ s.size ∧ i = .int .i64 k ∧ Hid ((s.data.toList.take k).all wcB = true)) (fun i => s.size - (intOf i).toNat)
      case atStart => exact ⟨0, Nat.zero_le _, rfl, Lib.hid rfl⟩
      case round =>
        obtain ⟨k, hk, rfl, ha⟩ := hrel
        by_cases hlt : k < s.size
        · rcases hx : digI (s[k].toNat : Int) with _ | _
          · rcases hy : smlI (s[k].toNat : Int) with _ | _
            · have hr := Lib.hid (word_bad hlt (wc_no hx hy))
              go_wp2_with (first | (go_at_call 50; refine (isDigit_any _ _).mono ?_; rintro e w' ⟨rfl, rfl⟩) | (go_at_call 51; refine (isSmall_any _ _).mono ?_; rintro e w' ⟨rfl, rfl⟩))
              go_ret
              exact ⟨ret_bool hr.out.symm, rfl⟩
            · have ha' := Lib.hid (all_snoc hlt ha.out (wc_sml hy))
              go_wp2_with (first | (go_at_call 50; refine (isDigit_any _ _).mono ?_; rintro e w' ⟨rfl, rfl⟩) | (go_at_call 51; refine (isSmall_any _ _).mono ?_; rintro e w' ⟨rfl, rfl⟩))
              go_round
              case rel => exact ⟨k + 1, by omega, by go_num, ha'⟩
              case measure => simp [intOf]; omega
          · have ha' := Lib.hid (all_snoc hlt ha.out (wc_dig hx))
            go_wp2_with (first | (go_at_call 50; refine (isDigit_any _ _).mono ?_; rintro e w' ⟨rfl, rfl⟩) | (go_at_call 51; refine (isSmall_any _ _).mono ?_; rintro e w' ⟨rfl, rfl⟩))
            go_round
            case rel => exact ⟨k + 1, by omega, by go_num, ha'⟩
            case measure => simp [intOf]; omega
        · have hr := Lib.hid (word_ok h1 h2 HD.out (by rw [← bfull s k (by omega)]; exact ha.out))
          go_wp2
          go_ret
          exact ⟨ret_bool hr.out.symm, rfl⟩
    · have hr := Lib.hid (word_dig h1 hd)
      go_enter Try.func32, Try.ntmps32
      go_wp2_with (go_at_call 50; refine (isDigit_any _ _).mono ?_; rintro e w' ⟨rfl, rfl⟩)
      go_ret
      exact ⟨ret_bool hr.out.symm, rfl⟩
end Go.Proofs.Ytoiglenodiomhaa
