/-
  Contracts of the functions of chapter 1 on words.
-/
import Derived.Test.YtfajfomiadcffaaRows
import Derived.Test.YtfajfomiadcffaaPlain
import Derived.WalkKit
import Derived.ProofKit
import Derived.Lib.Hide
import Derived.Outline
import Derived.BigQuiet
import Derived.Deep.QuietTactic
namespace Go.Proofs.Ytfajfomiadcffaa
open Go.RowKit
theorem ret_bool {a b : Bool} (h : a = b) : Ending.returned (.bool a) = .returned (.bool b) := by rw [h]
theorem ret_int {k : IntKind} {a b : Int} (h : a = b) : Ending.returned (.int k a) = .returned (.int k b) := by rw [h]
theorem isDigit_any (n : Int) (w : World) :
    Calls Try.prog 26 #[.int .u8 n] w fun e w' => e = .returned (.bool (digI n)) ∧ w = w' := by
  go_enter Try.func26, Try.ntmps26
  go_wp2
  all_goals (go_ret; exact ⟨ret_bool (by simp [digI]; omega), rfl⟩)
theorem isSmall_any (n : Int) (w : World) :
    Calls Try.prog 27 #[.int .u8 n] w fun e w' => e = .returned (.bool (smlI n)) ∧ w = w' := by
  go_enter Try.func27, Try.ntmps27
  go_wp2
  all_goals (go_ret; exact ⟨ret_bool (by simp [smlI]; omega), rfl⟩)
theorem l1In_any (n lo hi : Int) (w : World) :
    Calls Try.prog 28 #[.int .i64 n, .int .i64 lo, .int .i64 hi] w fun e w' => e = .returned (.bool (inB n lo hi)) ∧ w = w' := by
  go_enter Try.func28, Try.ntmps28
  go_wp2
  all_goals (go_ret; exact ⟨ret_bool (by simp [inB]; omega), rfl⟩)
set_option maxHeartbeats 400000 in
theorem word_any (s : ByteArray) (w : World) (hs : s.size ≤ maxLen) :
    Calls Try.prog 12 #[.string s] w fun e w' => e = .returned (.bool (wordB s.data.toList)) ∧ w = w' := by
  unfold maxLen at hs
  by_cases h0 : s.size < 1 ∨ 8 < s.size
  · have hr := Lib.hid (word_short h0)
    go_enter Try.func12, Try.ntmps12
    rcases h0 with h0 | h0 <;> go_wp2 <;> go_ret <;> exact ⟨ret_bool hr.out.symm, rfl⟩
  · have h1 : 1 ≤ s.size := by omega
    have h2 : s.size ≤ 8 := by omega
    clear h0
    rcases hd : digI (s[0].toNat : Int) with _ | _
    · have HD := Lib.hid hd
      go_enter Try.func12, Try.ntmps12
      go_wp2_with (go_at_call 26; refine (isDigit_any _ _).mono ?_; rintro e w' ⟨rfl, rfl⟩)
      clear hd
      go_loop [3] (fun i => ∃ k : Nat, k ≤ s.size ∧ i = .int .i64 k ∧ Hid ((s.data.toList.take k).all wcB = true)) (fun i => s.size - (intOf i).toNat)
      case atStart => exact ⟨0, Nat.zero_le _, rfl, Lib.hid rfl⟩
      case round =>
        obtain ⟨k, hk, rfl, ha⟩ := hrel
        by_cases hlt : k < s.size
        · rcases hx : digI (s[k].toNat : Int) with _ | _
          · rcases hy : smlI (s[k].toNat : Int) with _ | _
            · have hr := Lib.hid (word_bad hlt (wc_no hx hy))
              go_wp2_with (first | (go_at_call 26; refine (isDigit_any _ _).mono ?_; rintro e w' ⟨rfl, rfl⟩) | (go_at_call 27; refine (isSmall_any _ _).mono ?_; rintro e w' ⟨rfl, rfl⟩))
              go_ret
              exact ⟨ret_bool hr.out.symm, rfl⟩
            · have ha' := Lib.hid (all_snoc hlt ha.out (wc_sml hy))
              go_wp2_with (first | (go_at_call 26; refine (isDigit_any _ _).mono ?_; rintro e w' ⟨rfl, rfl⟩) | (go_at_call 27; refine (isSmall_any _ _).mono ?_; rintro e w' ⟨rfl, rfl⟩))
              go_round
              case rel => exact ⟨k + 1, by omega, by go_num, ha'⟩
              case measure => simp [intOf]; omega
          · have ha' := Lib.hid (all_snoc hlt ha.out (wc_dig hx))
            go_wp2_with (first | (go_at_call 26; refine (isDigit_any _ _).mono ?_; rintro e w' ⟨rfl, rfl⟩) | (go_at_call 27; refine (isSmall_any _ _).mono ?_; rintro e w' ⟨rfl, rfl⟩))
            go_round
            case rel => exact ⟨k + 1, by omega, by go_num, ha'⟩
            case measure => simp [intOf]; omega
        · have hr := Lib.hid (word_ok h1 h2 HD.out (by rw [← bfull s k (by omega)]; exact ha.out))
          go_wp2
          go_ret
          exact ⟨ret_bool hr.out.symm, rfl⟩
    · have hr := Lib.hid (word_dig h1 hd)
      go_enter Try.func12, Try.ntmps12
      go_wp2_with (go_at_call 26; refine (isDigit_any _ _).mono ?_; rintro e w' ⟨rfl, rfl⟩)
      go_ret
      exact ⟨ret_bool hr.out.symm, rfl⟩
set_option maxHeartbeats 400000 in
theorem sword_any (s : ByteArray) (w : World) (hs : s.size ≤ maxLen) :
    Calls Try.prog 13 #[.string s] w fun e w' => e = .returned (.bool (wordB s.data.toList)) ∧ w = w' := by
  unfold maxLen at hs
  go_enter Try.func13, Try.ntmps13
  go_wp2
  go_loop [3] (fun i => ∃ k : Nat, k ≤ s.size ∧ i = .int .i64 k ∧ PreW s.data.toList k) (fun i => s.size - (intOf i).toNat)
  case atStart => exact ⟨0, Nat.zero_le _, rfl, preW_zero _⟩
  case round =>
    obtain ⟨k, hk, rfl, hp⟩ := hrel
    by_cases hlt : k < s.size
    · by_cases ha : 97 ≤ (s[k].toNat : Int) ∧ (s[k].toNat : Int) ≤ 122
      · obtain ⟨a, b⟩ := ha
        have hp' := preW_sml hlt hp a b
        go_wp2
        go_round
        case rel => exact ⟨k + 1, by omega, by go_num, hp'⟩
        case measure => simp [intOf]; omega
      · have a : decide (97 ≤ (s[k].toNat : Int)) = false ∨ (decide (97 ≤ (s[k].toNat : Int)) = true ∧ decide ((s[k].toNat : Int) ≤ 122) = false) := by simp; omega
        have a' : (s[k].toNat : Int) < 97 ∨ 122 < (s[k].toNat : Int) := by omega
        clear ha
        by_cases hb : 0 < k ∧ 48 ≤ (s[k].toNat : Int) ∧ (s[k].toNat : Int) ≤ 57
        · obtain ⟨h0, b, c⟩ := hb
          have hp' := preW_dig hlt h0 hp b c
          have k0 : ((k : Int) == 0) = false := by simp; omega
          have b1 : decide ((s[k].toNat : Int) < 48) = false := by simp; omega
          have b2 : decide (57 < (s[k].toNat : Int)) = false := by simp; omega
          clear a' b c
          rcases a with a | ⟨a, a2⟩
          all_goals
            go_wp2
            go_round
            case rel => exact ⟨k + 1, by omega, by go_num, hp'⟩
            case measure => simp [intOf]; omega
        · have hr : Hid (wordB s.data.toList = false) := by
            by_cases h0 : k = 0
            · subst h0; exact Lib.hid (word_bad0 hlt a')
            · exact Lib.hid (word_badk hlt a' (by omega))
          by_cases h0 : k = 0
          · subst h0
            clear a' hb
            rcases a with a | ⟨a, a2⟩
            all_goals
              go_wp2
              go_ret
              exact ⟨ret_bool hr.out.symm, rfl⟩
          · have h0' : 0 < k := by omega
            have b : (s[k].toNat : Int) < 48 ∨ 57 < (s[k].toNat : Int) := by omega
            have b' : decide ((s[k].toNat : Int) < 48) = true ∨ (decide ((s[k].toNat : Int) < 48) = false ∧ decide (57 < (s[k].toNat : Int)) = true) := by simp; omega
            clear hb h0 a' b
            rcases a with a | ⟨a, a2⟩ <;> rcases b' with b | ⟨b, b2⟩
            all_goals
              go_wp2
              go_ret
              exact ⟨ret_bool hr.out.symm, rfl⟩
    · have hr := Lib.hid (word_pre (by omega) hk hp)
      go_wp2_with (go_at_call 28; refine (l1In_any _ _ _ _).mono ?_; rintro e w' ⟨rfl, rfl⟩)
      go_ret
      exact ⟨ret_bool hr.out, rfl⟩
end Go.Proofs.Ytfajfomiadcffaa
