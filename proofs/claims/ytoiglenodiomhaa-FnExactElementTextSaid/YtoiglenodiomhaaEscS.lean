/-
  The verifier's own text: EscS.
-/
import Derived.Test.YtoiglenodiomhaaRows
import Derived.Test.YtoiglenodiomhaaNameS
import Derived.Test.YtoiglenodiomhaaTextS
import Derived.Test.YtoiglenodiomhaaEscMore
import Derived.WalkKit
import Derived.ProofKit
import Derived.Below
import Derived.Lib.Hide
import Derived.Outline
import Derived.BigQuiet
import Derived.Deep.QuietTactic
import Derived.Deep.Draws
import Derived.Laws.OwnMore
import Derived.Laws.Rows
import Derived.WalkSpells
import Derived.Deep.RegionWith
namespace Go.Proofs.Ytoiglenodiomhaa
open Go.RowKit
set_option linter.unusedVariables false
set_option maxHeartbeats 400000 in
theorem escS_any (s : ByteArray) (w : World) (hs : s.size ≤ maxLen) :
    Calls Try.prog 39 #[.string s] w fun e w' => e = .returned (.string (bs (escT s.data.toList))) ∧ w = w' := by
  have hs' := hs
  unfold maxLen at hs'
  rcases ht : textB s.data.toList with _ | _
  · have HT := Lib.hid ht
    have HR := Lib.hid (escT_out ht)
    clear ht
    by_cases h0 : s.size = 0
    · go_enter Try.func39, Try.ntmps39
      go_wp2
      refine wp_loop_rounds 1 ?_
      rw [rounds_succ]; go_wp2
      go_ret
      exact ⟨by rw [HR.out]; rfl, rfl⟩
    · have hp : 0 < s.size := by omega
      clear h0
      go_enter Try.func39, Try.ntmps39
      go_wp2
      refine wp_loop_rounds 1 ?_
      rw [rounds_succ]
      go_wp2_with (go_at_call 35; refine (stext_any _ _ hs).mono ?_; rintro e w' ⟨rfl, rfl⟩; rw [HT.out])
      go_ret
      exact ⟨by rw [HR.out]; rfl, rfl⟩
  · have HT := Lib.hid ht
    have HR := Lib.hid (escT_in ht)
    have h80 := text_80 ht
    have happ := bs_append
    clear ht
    go_enter Try.func39, Try.ntmps39
    go_wp2
    go_loop [3, 4] (fun t i => ∃ (k : Nat) (l : List UInt8), k ≤ s.size ∧ i = .int .i64 k ∧ t = .string (bs l) ∧ l.length ≤ 480 ∧ Hid (l = escL (s.data.toList.take k))) (fun _ i => s.size - (intOf i).toNat)
    case atStart => exact ⟨0, [], Nat.zero_le _, rfl, rfl, by simp, Lib.hid rfl⟩
    case round =>
      obtain ⟨k, l, hk, rfl, rfl, hl, hle⟩ := hrel
      by_cases hlt : k < s.size
      · have hsz : (bs l).size + (bs (nmL s[k])).size ≤ 9223372036854775807 := by rw [bs_size, bs_size]; have := nm_len s[k]; omega
        have hsz1 : (bs l).size + (bs [s[k]]).size ≤ 9223372036854775807 := by rw [bs_size, bs_size]; simp; omega
        have hx := ext1 s k hlt
        have hn : Hid (escL (s.data.toList.take (k + 1)) = l ++ escB s[k]) := Lib.hid (by rw [esc_next hlt, ← hle.out])
        have h480 := esc_short (s := s) (k + 1) h80
        by_cases he : nmL s[k] = []
        · have z : (bs (nmL s[k])).toList = [] := by rw [he]; exact str_nil rfl
          have hb := Lib.hid (escB_plain he)
          clear he
          go_wp2_with (first | (go_at_call 35; refine (stext_any _ _ hs).mono ?_; rintro e w' ⟨rfl, rfl⟩; rw [HT.out]) | (go_at_call 54; refine (l3Name_any _ _).mono ?_; rintro e w' ⟨rfl, rfl⟩))
          go_round
          case rel => exact ⟨k + 1, _, by omega, by go_num, rfl, by rw [← hb.out, ← hn.out]; exact h480, Lib.hid (by rw [hn.out, hb.out])⟩
          case measure => simp [intOf]; omega
        · have hne : (bs (nmL s[k])).size ≠ 0 := by rw [bs_size]; exact fun h => he (List.length_eq_zero_iff.1 h)
          have z := str_ne hne
          have z2 := str_full hne
          have hb := Lib.hid (escB_named he)
          clear he hne
          go_wp2_with (first | (go_at_call 35; refine (stext_any _ _ hs).mono ?_; rintro e w' ⟨rfl, rfl⟩; rw [HT.out]) | (go_at_call 54; refine (l3Name_any _ _).mono ?_; rintro e w' ⟨rfl, rfl⟩))
          go_round
          case rel => exact ⟨k + 1, _, by omega, by go_num, rfl, by rw [← hb.out, ← hn.out]; exact h480, Lib.hid (by rw [hn.out, hb.out])⟩
          case measure => simp [intOf]; omega
      · have hr' : Hid (escT s.data.toList = l) := Lib.hid (by rw [HR.out, hle.out, bfull s k (by omega)])
        go_wp2
        go_ret
        exact ⟨by rw [hr'.out]; rfl, rfl⟩
end Go.Proofs.Ytoiglenodiomhaa
