/-
  The verifier's own text: PlainI.
-/
import Derived.Test.YthfgfbhmccheaaaRows
import Derived.Test.YthfgfbhmccheaaaPlainMath
import Derived.Test.YthfgfbhmccheaaaTextI
import Derived.Test.YthfgfbhmccheaaaOwnB
import Derived.Test.YthfgfbhmccheaaaEscMore
import Derived.WalkKit
import Derived.ProofKit
import Derived.Below
import Derived.Lib.Hide
import Derived.Outline
import Derived.BigQuiet
import Derived.Deep.QuietTactic
import Derived.Deep.Draws
import Derived.Laws.OwnMore
import Derived.Laws.Rows
import Derived.WalkSpells
import Derived.Deep.RegionWith
namespace Go.Proofs.Ythfgfbhmccheaaa
open Go.RowKit
set_option linter.unusedVariables false
set_option maxHeartbeats 1000000 in
theorem plI_any (s : ByteArray) (w : World) (hs : s.size ≤ maxLen) :
    Calls Try.prog 18 #[.string s] w (GotStr (plT s.data.toList) w) := by
  have hs' := hs
  unfold maxLen at hs'
  rcases ht : textB s.data.toList with _ | _
  · have HT := Lib.hid ht
    have HR := Lib.hid (plT_out ht)
    clear ht
    go_enter Try.func18, Try.ntmps18
    go_wp2_with (go_at_call 12; refine (text_any _ _ hs).mono ?_; rintro e w' ⟨rfl, rfl⟩; rw [HT.out])
    go_ret
    exact ⟨by rw [HR.out]; rfl, Below.refl _ _⟩
  · have HT := Lib.hid ht
    have HR := Lib.hid (plT_in ht)
    have h80 := text_80 ht
    clear ht
    go_enter Try.func18, Try.ntmps18
    go_wp2_with (first | (go_at_call 12; refine (text_any _ _ hs).mono ?_; rintro e w' ⟨rfl, rfl⟩; rw [HT.out]) | (at_make; refine make_bytes rfl _ _ rfl w (Below.refl _ _) s.size rfl rfl (by omega) ?_; intro v0 w1 hown0 hb0))
    have hown0 := Lib.hid hown0
    have hb0 := Lib.hid hb0
    go_loopw [3, 4, 5] (fun t b i wr => ∃ (k : Nat) (p : Bool) (v : Value) (l : List UInt8), k ≤ s.size ∧ i = .int .i64 k ∧ b = .bool p ∧ v = t ∧ l.length ≤ 80 ∧ Hid (plF (s.data.toList.take k) = (p, l)) ∧ Hid (OwnB wr w.heap.size v l) ∧ Hid (Below w.heap.size w wr)) (fun _ _ i _ => s.size - (intOf i).toNat)
    case atStart => exact ⟨0, false, _, [], Nat.zero_le _, rfl, rfl, rfl, by simp, Lib.hid rfl, hown0, hb0⟩
    case round =>
      obtain ⟨k, p, v, l, hk, rfl, rfl, rfl, hl, hle, hown, hbr⟩ := hrel
      by_cases hlt : k < s.size
      · have hn := Lib.hid (plF_take hlt)
        have h80' := pl_len80 (s := s) (k + 1) h80
        have h63 : l.length ≤ 70368744177664 := by omega
        by_cases h60 : s[k] = 60
        · have b1 : ((s[k].toNat : Int) == 60) = true := by rw [h60]; rfl
          have b2 : ((s[k].toNat : Int) == 62) = false := by rw [h60]; rfl
          have hq : Hid (plF (s.data.toList.take (k + 1)) = (true, l)) := Lib.hid (by rw [hn.out, hle.out, h60]; rfl)
          clear h60
          go_wp2
          go_roundw
          case rel => exact ⟨k + 1, _, _, _, by omega, by go_num, rfl, rfl, hl, hq, hown, hbr⟩
          case measure => simp [intOf]; omega
        · have b1 : ((s[k].toNat : Int) == 60) = false := byte_ne (d := 60) (by omega) h60
          have b2 : ((s[k].toNat : Int) == 62) = true ∨ ((s[k].toNat : Int) == 62) = false := by
            cases ((s[k].toNat : Int) == 62)
            · exact .inr rfl
            · exact .inl rfl
          rcases p with _ | _
          · have hq : Hid (plF (s.data.toList.take (k + 1)) = (false, l ++ [s[k]])) := Lib.hid (by rw [hn.out, hle.out, plS_out rfl h60])
            clear h60
            rcases b2 with b2 | b2
            all_goals
              go_wp2_with (at_builtin; refine app_byte rfl (.tmp 24) (.tmp 28) rfl w v l s[k] rfl hown.out hbr.out rfl h63 ?_; intro v1 w3 hown1 hb1)
              go_roundw
              case rel => exact ⟨k + 1, _, _, _, by omega, by go_num, rfl, rfl, by rw [hq.out] at h80'; exact h80', hq, Lib.hid hown1, Lib.hid hb1⟩
              case measure => simp [intOf]; omega
          · by_cases h62 : s[k] = 62
            · have b2 : ((s[k].toNat : Int) == 62) = true := by rw [h62]; rfl
              have hq : Hid (plF (s.data.toList.take (k + 1)) = (false, l)) := Lib.hid (by rw [hn.out, hle.out, h62]; exact plS_shut rfl)
              clear h62 h60
              go_wp2
              go_roundw
              case rel => exact ⟨k + 1, _, _, _, by omega, by go_num, rfl, rfl, hl, hq, hown, hbr⟩
              case measure => simp [intOf]; omega
            · have b2 : ((s[k].toNat : Int) == 62) = false := byte_ne (d := 62) (by omega) h62
              have hq : Hid (plF (s.data.toList.take (k + 1)) = (true, l)) := Lib.hid (by rw [hn.out, hle.out]; exact plS_in rfl h60 h62)
              clear h62 h60
              go_wp2
              go_roundw
              case rel => exact ⟨k + 1, _, _, _, by omega, by go_num, rfl, rfl, hl, hq, hown, hbr⟩
              case measure => simp [intOf]; omega
      · have hr' : Hid (plT s.data.toList = l) := Lib.hid (by rw [HR.out, ← bfull s k (by omega), hle.out])
        have hcv := conv_own hown.out
        go_wp2
        go_ret
        exact ⟨by rw [hr'.out]; rfl, hbr.out⟩
end Go.Proofs.Ythfgfbhmccheaaa
