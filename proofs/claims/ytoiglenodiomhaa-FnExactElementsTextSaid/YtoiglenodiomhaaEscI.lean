/-
  The verifier's own text: EscI.
-/
import Derived.Test.YtoiglenodiomhaaRows
import Derived.Test.YtoiglenodiomhaaNameOfI
import Derived.Test.YtoiglenodiomhaaTextI
import Derived.Test.YtoiglenodiomhaaOwnB
import Derived.Test.YtoiglenodiomhaaEscMore
import Derived.WalkKit
import Derived.ProofKit
import Derived.Below
import Derived.Lib.Hide
import Derived.Outline
import Derived.BigQuiet
import Derived.Deep.QuietTactic
import Derived.Deep.Draws
import Derived.Laws.OwnMore
import Derived.Laws.Rows
import Derived.WalkSpells
import Derived.Deep.RegionWith
namespace Go.Proofs.Ytoiglenodiomhaa
open Go.RowKit
set_option linter.unusedVariables false
set_option maxHeartbeats 1000000 in
theorem escI_any (s : ByteArray) (w : World) (hs : s.size ≤ maxLen) :
    Calls Try.prog 37 #[.string s] w (GotStr (escT s.data.toList) w) := by
  have hs' := hs
  unfold maxLen at hs'
  rcases ht : textB s.data.toList with _ | _
  · have HT := Lib.hid ht
    have HR := Lib.hid (escT_out ht)
    clear ht
    go_enter Try.func37, Try.ntmps37
    go_wp2_with (go_at_call 33; refine (text_any _ _ hs).mono ?_; rintro e w' ⟨rfl, rfl⟩; rw [HT.out])
    go_ret
    exact ⟨by rw [HR.out]; rfl, Below.refl _ _⟩
  · have HT := Lib.hid ht
    have HR := Lib.hid (escT_in ht)
    have h80 := text_80 ht
    clear ht
    go_enter Try.func37, Try.ntmps37
    go_wp2_with (first | (go_at_call 33; refine (text_any _ _ hs).mono ?_; rintro e w' ⟨rfl, rfl⟩; rw [HT.out]) | (at_make; refine make_bytes rfl _ _ rfl w (Below.refl _ _) s.size rfl rfl (by omega) ?_; intro v0 w1 hown0 hb0))
    have hown0 := Lib.hid hown0
    have hb0 := Lib.hid hb0
    go_loopw [3, 4] (fun t i wr => ∃ (k : Nat) (v : Value) (l : List UInt8), k ≤ s.size ∧ i = .int .i64 k ∧ v = t ∧ l.length ≤ 480 ∧ Hid (l = escL (s.data.toList.take k)) ∧ Hid (OwnB wr w.heap.size v l) ∧ Hid (Below w.heap.size w wr)) (fun _ i _ => s.size - (intOf i).toNat)
    case atStart => exact ⟨0, _, [], Nat.zero_le _, rfl, rfl, by simp, Lib.hid rfl, hown0, hb0⟩
    case round =>
      obtain ⟨k, v, l, hk, rfl, rfl, hl, hle, hown, hbr⟩ := hrel
      by_cases hlt : k < s.size
      · have hn : Hid (escL (s.data.toList.take (k + 1)) = l ++ escB s[k]) := Lib.hid (by rw [esc_next hlt, ← hle.out])
        have h480 := esc_short (s := s) (k + 1) h80
        have h6 := nm_len s[k]
        have h63 : l.length ≤ 70368744177664 := by omega
        have h62 : (nmL s[k]).length ≤ 1048576 := by omega
        by_cases he : nmL s[k] = []
        · have z : (bs (nmL s[k])).toList = [] := by rw [he]; exact str_nil rfl
          have hb := Lib.hid (escB_plain he)
          clear he h6
          go_wp2_with (first | (go_at_call 53; refine (nameOf_any _ _).mono ?_; rintro e w2 ⟨rfl, hb2⟩; have hb3 := Lib.hid (below_trans hbr.out hb2); have hown3 := Lib.hid (hown.out.grown hb2)) | (at_builtin; refine app_byte rfl (.tmp 24) (.tmp 28) rfl w v l s[k] rfl hown3.out hb3.out rfl h63 ?_; intro v1 w3 hown1 hb1))
          go_roundw
          case rel => exact ⟨k + 1, _, _, by omega, by go_num, rfl, by rw [← hb.out, ← hn.out]; exact h480, Lib.hid (by rw [hn.out, hb.out]), Lib.hid hown1, Lib.hid hb1⟩
          case measure => simp [intOf]; omega
        · have hne : (bs (nmL s[k])).size ≠ 0 := by rw [bs_size]; exact fun h => he (List.length_eq_zero_iff.1 h)
          have z := str_ne hne
          have z2 := str_full hne
          have hb := Lib.hid (escB_named he)
          clear he hne h6
          go_wp2_with (first | (go_at_call 53; refine (nameOf_any _ _).mono ?_; rintro e w2 ⟨rfl, hb2⟩; have hb3 := Lib.hid (below_trans hbr.out hb2); have hown3 := Lib.hid (hown.out.grown hb2)) | (at_builtin; refine app_text rfl (.tmp 30) (.tmp 31) rfl w v l (nmL s[k]) rfl hown3.out hb3.out rfl h63 h62 ?_; intro v1 w3 hown1 hb1))
          go_roundw
          case rel => exact ⟨k + 1, _, _, by omega, by go_num, rfl, by rw [← hb.out, ← hn.out]; exact h480, Lib.hid (by rw [hn.out, hb.out]), Lib.hid hown1, Lib.hid hb1⟩
          case measure => simp [intOf]; omega
      · have hr' : Hid (escT s.data.toList = l) := Lib.hid (by rw [HR.out, hle.out, bfull s k (by omega)])
        have hcv := conv_own hown.out
        go_wp2
        go_ret
        exact ⟨by rw [hr'.out]; rfl, hbr.out⟩
end Go.Proofs.Ytoiglenodiomhaa
