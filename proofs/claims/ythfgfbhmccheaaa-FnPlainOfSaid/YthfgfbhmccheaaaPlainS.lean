/-
  The verifier's own text: PlainS.
-/
import Derived.Test.YthfgfbhmccheaaaRows
import Derived.Test.YthfgfbhmccheaaaPlainMath
import Derived.Test.YthfgfbhmccheaaaEscMore
import Derived.Test.YthfgfbhmccheaaaTextS
import Derived.WalkKit
import Derived.ProofKit
import Derived.Below
import Derived.Lib.Hide
import Derived.Outline
import Derived.BigQuiet
import Derived.Deep.QuietTactic
import Derived.Deep.Draws
import Derived.Laws.OwnMore
import Derived.Laws.Rows
import Derived.WalkSpells
import Derived.Deep.RegionWith
namespace Go.Proofs.Ythfgfbhmccheaaa
open Go.RowKit
set_option linter.unusedVariables false
set_option maxHeartbeats 400000 in
theorem plS_any (s : ByteArray) (w : World) (hs : s.size ≤ maxLen) :
    Calls Try.prog 19 #[.string s] w fun e w' => e = .returned (.string (bs (plT s.data.toList))) ∧ w = w' := by
  have hs' := hs
  unfold maxLen at hs'
  rcases ht : textB s.data.toList with _ | _
  · have HT := Lib.hid ht
    have HR := Lib.hid (plT_out ht)
    clear ht
    by_cases h0 : s.size = 0
    · go_enter Try.func19, Try.ntmps19
      go_wp2
      refine wp_loop_rounds 1 ?_
      rw [rounds_succ]; go_wp2
      go_ret
      exact ⟨by rw [HR.out]; rfl, rfl⟩
    · have hp : 0 < s.size := by omega
      clear h0
      go_enter Try.func19, Try.ntmps19
      go_wp2
      refine wp_loop_rounds 1 ?_
      rw [rounds_succ]
      go_wp2_with (go_at_call 23; refine (stext_any _ _ hs).mono ?_; rintro e w' ⟨rfl, rfl⟩; rw [HT.out])
      go_ret
      exact ⟨by rw [HR.out]; rfl, rfl⟩
  · have HT := Lib.hid ht
    have HR := Lib.hid (plT_in ht)
    have h80 := text_80 ht
    have happ := bs_append
    clear ht
    go_enter Try.func19, Try.ntmps19
    go_wp2
    go_loop [3, 4, 5] (fun t b i => ∃ (k : Nat) (p : Bool) (l : List UInt8), k ≤ s.size ∧ i = .int .i64 k ∧ b = .bool p ∧ t = .string (bs l) ∧ l.length ≤ 80 ∧ Hid (plF (s.data.toList.take k) = (p, l))) (fun _ _ i => s.size - (intOf i).toNat)
    case atStart => exact ⟨0, false, [], Nat.zero_le _, rfl, rfl, rfl, by simp, Lib.hid rfl⟩
    case round =>
      obtain ⟨k, p, l, hk, rfl, rfl, rfl, hl, hle⟩ := hrel
      by_cases hlt : k < s.size
      · have hsz1 : (bs l).size + (bs [s[k]]).size ≤ 9223372036854775807 := by rw [bs_size, bs_size]; simp; omega
        have hx := ext1 s k hlt
        have hn := Lib.hid (plF_take hlt)
        have h80' := pl_len80 (s := s) (k + 1) h80
        by_cases h60 : s[k] = 60
        · have b1 : ((s[k].toNat : Int) == 60) = true := by rw [h60]; rfl
          have b2 : ((s[k].toNat : Int) == 62) = false := by rw [h60]; rfl
          have hq : Hid (plF (s.data.toList.take (k + 1)) = (true, l)) := Lib.hid (by rw [hn.out, hle.out, h60]; rfl)
          clear h60
          rcases p with _ | _
          all_goals
            go_wp2_with (go_at_call 23; refine (stext_any _ _ hs).mono ?_; rintro e w' ⟨rfl, rfl⟩; rw [HT.out])
            go_round
            case rel => exact ⟨k + 1, _, _, by omega, by go_num, rfl, rfl, hl, hq⟩
            case measure => simp [intOf]; omega
        · have b1 : ((s[k].toNat : Int) == 60) = false := byte_ne (d := 60) (by omega) h60
          by_cases h62 : s[k] = 62
          · have b2 : ((s[k].toNat : Int) == 62) = true := by rw [h62]; rfl
            rcases p with _ | _
            · have hq : Hid (plF (s.data.toList.take (k + 1)) = (false, l ++ [s[k]])) := Lib.hid (by rw [hn.out, hle.out, plS_out rfl h60])
              clear h62 h60
              go_wp2_with (go_at_call 23; refine (stext_any _ _ hs).mono ?_; rintro e w' ⟨rfl, rfl⟩; rw [HT.out])
              go_round
              case rel => exact ⟨k + 1, _, _, by omega, by go_num, rfl, rfl, by rw [hq.out] at h80'; exact h80', hq⟩
              case measure => simp [intOf]; omega
            · have hq : Hid (plF (s.data.toList.take (k + 1)) = (false, l)) := Lib.hid (by rw [hn.out, hle.out, h62]; exact plS_shut rfl)
              clear h62 h60
              go_wp2_with (go_at_call 23; refine (stext_any _ _ hs).mono ?_; rintro e w' ⟨rfl, rfl⟩; rw [HT.out])
              go_round
              case rel => exact ⟨k + 1, _, _, by omega, by go_num, rfl, rfl, hl, hq⟩
              case measure => simp [intOf]; omega
          · have b2 : ((s[k].toNat : Int) == 62) = false := byte_ne (d := 62) (by omega) h62
            rcases p with _ | _
            · have hq : Hid (plF (s.data.toList.take (k + 1)) = (false, l ++ [s[k]])) := Lib.hid (by rw [hn.out, hle.out, plS_out rfl h60])
              clear h62 h60
              go_wp2_with (go_at_call 23; refine (stext_any _ _ hs).mono ?_; rintro e w' ⟨rfl, rfl⟩; rw [HT.out])
              go_round
              case rel => exact ⟨k + 1, _, _, by omega, by go_num, rfl, rfl, by rw [hq.out] at h80'; exact h80', hq⟩
              case measure => simp [intOf]; omega
            · have hq : Hid (plF (s.data.toList.take (k + 1)) = (true, l)) := Lib.hid (by rw [hn.out, hle.out]; exact plS_in rfl h60 h62)
              clear h62 h60
              go_wp2_with (go_at_call 23; refine (stext_any _ _ hs).mono ?_; rintro e w' ⟨rfl, rfl⟩; rw [HT.out])
              go_round
              case rel => exact ⟨k + 1, _, _, by omega, by go_num, rfl, rfl, hl, hq⟩
              case measure => simp [intOf]; omega
      · have hr' : Hid (plT s.data.toList = l) := Lib.hid (by rw [HR.out, ← bfull s k (by omega), hle.out])
        go_wp2
        go_ret
        exact ⟨by rw [hr'.out]; rfl, rfl⟩
end Go.Proofs.Ythfgfbhmccheaaa
