/-
  The verifier's own text: ReadMarkS.
-/
import Derived.Test.YtchknjhfodofcaaRows
import Derived.Test.YtchknjhfodofcaaMarkS
import Derived.WalkKit
import Derived.ProofKit
import Derived.Below
import Derived.Lib.Hide
import Derived.Outline
import Derived.BigQuiet
import Derived.Deep.QuietTactic
import Derived.Deep.Draws
import Derived.Laws.OwnMore
import Derived.Laws.Rows
import Derived.WalkSpells
import Derived.Deep.RegionWith
namespace Go.Proofs.Ytchknjhfodofcaa
open Go.RowKit
set_option linter.unusedVariables false
set_option maxRecDepth 100000 in
set_option maxHeartbeats 400000 in
theorem sreadm_any (s : ByteArray) (w : World) (hs : s.size ≤ maxLen) :
    Calls Try.prog 44 #[.string s] w fun e w' => e = .returned (.int .i64 (readM s.data.toList)) ∧ w = w' := by
  unfold maxLen at hs
  go_enter Try.func44, Try.ntmps44
  go_wp2
  go_loop [3, 4] (fun v i => ∃ k n : Nat, k ≤ s.size ∧ k ≤ 7 ∧ n ≤ 78364164096 ∧ i = .int .i64 k ∧ v = .int .i64 n ∧ PreM s.data.toList k n) (fun _ i => s.size - (intOf i).toNat)
  case atStart => exact ⟨0, 0, Nat.zero_le _, by omega, by omega, rfl, rfl, rfl, rfl⟩
  case round =>
    obtain ⟨k, n, hk, hk7, hn, rfl, rfl, hp⟩ := hrel
    by_cases hlt : k < s.size ∧ k < 7
    · obtain ⟨hlt, hlt7⟩ := hlt
      have hn6 := preM_bd6 hp (by omega)
      have hc := (s[k]).toNat_lt
      obtain ⟨d, hd'⟩ : ∃ d, mval s[k] = d := ⟨_, rfl⟩
      clear hd' d
      by_cases ha : 48 ≤ (s[k].toNat : Int) ∧ (s[k].toNat : Int) ≤ 57
      · obtain ⟨a, b⟩ := ha
        have hp' := preM_next hlt hp (by rw [mval_dig (digI_true a b)]; omega)
        rw [mval_dig (digI_true a b)] at hp'
        have hb := preM_bd hp' (by omega)
        go_wp2
        go_round
        case rel => exact ⟨k + 1, _, by omega, by omega, hb, by go_num, by congr 1; omega, hp'⟩
        case measure => simp [intOf]; omega
      · by_cases hl : 97 ≤ (s[k].toNat : Int) ∧ (s[k].toNat : Int) ≤ 122
        · obtain ⟨a, b⟩ := hl
          have hx : digI (s[k].toNat : Int) = false := digI_no (by omega)
          have hp' := preM_next hlt hp (by rw [mval_sml hx (smlI_true a b)]; omega)
          rw [mval_sml hx (smlI_true a b)] at hp'
          have hb := preM_bd hp' (by omega)
          have c1 : decide (48 ≤ (s[k].toNat : Int)) = true := decide_eq_true (by omega)
          have c2 : decide ((s[k].toNat : Int) ≤ 57) = false := decide_eq_false (by omega)
          clear ha hx
          go_wp2
          go_round
          case rel => exact ⟨k + 1, _, by omega, by omega, hb, by go_num, by congr 1; omega, hp'⟩
          case measure => simp [intOf]; omega
        · have hr := Lib.hid (readM_badc hlt (by rw [mval_no (digI_no (by omega)) (smlI_no (by omega))]; omega))
          have c1 : decide (48 ≤ (s[k].toNat : Int)) = false ∨ (decide (48 ≤ (s[k].toNat : Int)) = true ∧ decide ((s[k].toNat : Int) ≤ 57) = false) := by simp; omega
          have c2 : decide (97 ≤ (s[k].toNat : Int)) = false ∨ (decide (97 ≤ (s[k].toNat : Int)) = true ∧ decide ((s[k].toNat : Int) ≤ 122) = false) := by simp; omega
          clear ha hl
          rcases c1 with a | ⟨a, b⟩ <;> rcases c2 with c | ⟨c, d⟩
          all_goals
            go_wp2
            go_ret
            exact ⟨ret_int hr.out.symm, rfl⟩
    · have hkk : s.size ≤ k ∨ (7 ≤ k ∧ k ≤ s.size) := by omega
      have t : decide (k < s.size) = false ∨ (decide (k < s.size) = true ∧ decide ((k : Int) < 7) = false) := by
        by_cases h : k < s.size
        · exact .inr ⟨decide_eq_true (by omega), decide_eq_false (by omega)⟩
        · exact .inl (decide_eq_false (by omega))
      clear hlt
      by_cases hz : s.size = 0
      · have hr : Hid (readM s.data.toList = -1) := Lib.hid (by
          have : s.data.toList = [] := List.length_eq_zero_iff.1 (by rw [blen]; exact hz)
          rw [this]; rfl)
        have z1 := str_nil hz
        have t0 : decide (k < s.size) = false := decide_eq_false (by omega)
        clear t hkk hp
        go_wp2_with (go_at_call 39; refine (smark_any _ _).mono ?_; rintro e w' ⟨rfl, rfl⟩)
        go_ret
        exact ⟨ret_int hr.out.symm, rfl⟩
      · have z1 := str_ne hz
        have z2 := str_full hz
        by_cases he : bs (markT n) = s
        · have hr := Lib.hid (readM_eq he hz)
          have q1 := str_same he
          clear he hkk hp hz
          rcases t with t | ⟨t, t2⟩
          all_goals
            go_wp2_with (go_at_call 39; refine (smark_any _ _).mono ?_; rintro e w' ⟨rfl, rfl⟩)
            go_ret
            exact ⟨ret_int hr.out.symm, rfl⟩
        · have hr := Lib.hid (readM_neq hp hkk he)
          have q1 := str_other he
          clear he hkk hp hz
          rcases t with t | ⟨t, t2⟩
          all_goals
            go_wp2_with (go_at_call 39; refine (smark_any _ _).mono ?_; rintro e w' ⟨rfl, rfl⟩)
            go_ret
            exact ⟨ret_int hr.out.symm, rfl⟩
end Go.Proofs.Ytchknjhfodofcaa
