/-
  The verifier's own text: ReadMarkI.
-/
import Derived.Test.YtolkgamfoopnjaaRows
import Derived.Test.YtolkgamfoopnjaaGa
import Derived.Test.YtolkgamfoopnjaaGc
import Derived.WalkKit
import Derived.ProofKit
import Derived.Below
import Derived.Lib.Hide
import Derived.Outline
import Derived.BigQuiet
import Derived.Deep.QuietTactic
import Derived.Deep.Draws
import Derived.Laws.OwnMore
import Derived.Laws.Rows
import Derived.WalkSpells
import Derived.Deep.RegionWith
namespace Go.Proofs.Ytolkgamfoopnjaa
open Go.RowKit
set_option linter.unusedVariables false
theorem mdv_any (c : UInt8) (w : World) :
    Calls Try.prog 39 #[.int .u8 c.toNat] w fun e w' => e = .returned (.int .i64 (mval c)) ∧ w = w' := by
  have hc := c.toNat_lt
  rcases hx : digI (c.toNat : Int) with _ | _
  · rcases hy : smlI (c.toNat : Int) with _ | _
    · have hr := Lib.hid (mval_no hx hy)
      go_enter Try.func39, Try.ntmps39
      go_wp2_with (first | (go_at_call 35; refine (isDigit_any _ _).mono ?_; rintro e w' ⟨rfl, rfl⟩) | (go_at_call 36; refine (isSmall_any _ _).mono ?_; rintro e w' ⟨rfl, rfl⟩))
      go_ret
      exact ⟨ret_int hr.out.symm, rfl⟩
    · have hr := Lib.hid (mval_sml hx hy)
      have b := smlI_bd hy
      obtain ⟨b1, b2⟩ := b
      go_enter Try.func39, Try.ntmps39
      go_wp2_with (first | (go_at_call 35; refine (isDigit_any _ _).mono ?_; rintro e w' ⟨rfl, rfl⟩) | (go_at_call 36; refine (isSmall_any _ _).mono ?_; rintro e w' ⟨rfl, rfl⟩))
      go_ret
      exact ⟨ret_int (by rw [hr.out]; omega), rfl⟩
  · have hr := Lib.hid (mval_dig hx)
    have b := digI_bd hx
    obtain ⟨b1, b2⟩ := b
    go_enter Try.func39, Try.ntmps39
    go_wp2_with (first | (go_at_call 35; refine (isDigit_any _ _).mono ?_; rintro e w' ⟨rfl, rfl⟩) | (go_at_call 36; refine (isSmall_any _ _).mono ?_; rintro e w' ⟨rfl, rfl⟩))
    go_ret
    exact ⟨ret_int hr.out.symm, rfl⟩
set_option maxRecDepth 100000 in
set_option maxHeartbeats 400000 in
theorem readm_any (s : ByteArray) (w : World) (hs : s.size ≤ maxLen) :
    Calls Try.prog 27 #[.string s] w fun e w' => e = .returned (.int .i64 (readM s.data.toList)) ∧ w = w' := by
  unfold maxLen at hs
  by_cases hz : s.size = 0
  · have hr : Hid (readM s.data.toList = -1) := Lib.hid (by
      have : s.data.toList = [] := List.length_eq_zero_iff.1 (by rw [blen]; exact hz)
      rw [this]; rfl)
    have e0 : ((s.size : Int) == 0) = true := by simp [hz]
    clear hz
    go_enter Try.func27, Try.ntmps27
    go_wp2
    go_ret
    exact ⟨ret_int hr.out.symm, rfl⟩
  · have e0 : ((s.size : Int) == 0) = false := by simp [hz]
    have h1 : 1 ≤ s.size := by omega
    have hg : (1 < s.size ∧ ((s[0].toNat : Int) == 48) = true) ∨ (decide (1 < (s.size : Int)) = true ∧ ((s[0].toNat : Int) == 48) = false) ∨ decide (1 < (s.size : Int)) = false := by
      rcases hd : ((s[0].toNat : Int) == 48) with _ | _
      · by_cases h2 : 1 < s.size
        · exact .inr (.inl ⟨decide_eq_true (by omega), rfl⟩)
        · exact .inr (.inr (decide_eq_false (by omega)))
      · by_cases h2 : 1 < s.size
        · exact .inl ⟨h2, rfl⟩
        · exact .inr (.inr (decide_eq_false (by omega)))
    rcases hg with ⟨h2, hd⟩ | hg
    · have hr := Lib.hid (readM_lead (l := s.data.toList) (by rw [blen]; exact h2) (by rw [bhead s h1]; exact byte48' hd))
      go_enter Try.func27, Try.ntmps27
      go_wp2
      go_ret
      exact ⟨ret_int hr.out.symm, rfl⟩
    · have hlead : Hid (s.size = 1 ∨ s[0] ≠ 48) := by
        rcases hg with ⟨h2, hd⟩ | h2
        · exact Lib.hid (.inr (byte48 hd))
        · simp at h2; exact Lib.hid (.inl (by omega))
      rcases hg with ⟨h2, hd⟩ | h2
      all_goals
        clear hz
        go_enter Try.func27, Try.ntmps27
        go_wp2
        go_loop [3, 4] (fun v i => ∃ k n : Nat, k ≤ s.size ∧ n ≤ 1000000000 ∧ i = .int .i64 k ∧ v = .int .i64 n ∧ PreM s.data.toList k n) (fun _ i => s.size - (intOf i).toNat)
        case atStart => exact ⟨0, 0, Nat.zero_le _, by omega, rfl, rfl, rfl, rfl⟩
        case round =>
          obtain ⟨k, n, hk, hn, rfl, rfl, hp⟩ := hrel
          by_cases hlt : k < s.size
          · obtain ⟨d, hd'⟩ : ∃ d, mval s[k] = d := ⟨_, rfl⟩
            have b1 : d < 36 := by rw [← hd']; exact mval_lt _
            have HD := Lib.hid hd'
            clear hd'
            by_cases hneg : d < 0
            · have hr := Lib.hid (readM_badc hlt (by rw [HD.out]; exact hneg))
              go_wp2_with (go_at_call 39; refine (mdv_any _ _).mono ?_; rintro e w' ⟨rfl, rfl⟩; rw [HD.out])
              go_ret
              exact ⟨ret_int hr.out.symm, rfl⟩
            · have n1 : decide (d < 0) = false := by simp; omega
              by_cases hbig : (1000000000 - d) / 36 < n
              · have hr := Lib.hid (readM_big hlt (by rw [HD.out, hp.1]; omega))
                have n2 : decide ((1000000000 - d) / 36 < (n : Int)) = true := by simpa using hbig
                go_wp2_with (go_at_call 39; refine (mdv_any _ _).mono ?_; rintro e w' ⟨rfl, rfl⟩; rw [HD.out])
                go_ret
                exact ⟨ret_int hr.out.symm, rfl⟩
              · have n2 : decide ((1000000000 - d) / 36 < (n : Int)) = false := by simpa using hbig
                have hp' := preM_next hlt hp (by rw [HD.out]; omega)
                rw [HD.out] at hp'
                go_wp2_with (go_at_call 39; refine (mdv_any _ _).mono ?_; rintro e w' ⟨rfl, rfl⟩; rw [HD.out])
                go_round
                case rel => exact ⟨k + 1, n * 36 + d.toNat, by omega, by omega, by go_num, by congr 1; omega, hp'⟩
                case measure => simp [intOf]; omega
          · have hr := Lib.hid (readM_good (by omega) hp.1 hp.2 hn h1 hlead.out)
            go_wp2
            go_ret
            exact ⟨ret_int hr.out.symm, rfl⟩
end Go.Proofs.Ytolkgamfoopnjaa
