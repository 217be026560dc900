/-
  The verifier's own text: TextI.
-/
import Derived.Test.YtoiglenodiomhaaRows
import Derived.Test.YtoiglenodiomhaaTextMath
import Derived.WalkKit
import Derived.ProofKit
import Derived.Below
import Derived.Lib.Hide
import Derived.Outline
import Derived.BigQuiet
import Derived.Deep.QuietTactic
import Derived.Deep.Draws
import Derived.Laws.OwnMore
import Derived.Laws.Rows
import Derived.WalkSpells
import Derived.Deep.RegionWith
namespace Go.Proofs.Ytoiglenodiomhaa
open Go.RowKit
set_option linter.unusedVariables false
set_option maxHeartbeats 400000 in
theorem text_any (s : ByteArray) (w : World) (hs : s.size ≤ maxLen) :
    Calls Try.prog 33 #[.string s] w fun e w' => e = .returned (.bool (textB s.data.toList)) ∧ w = w' := by
  unfold maxLen at hs
  by_cases hl : 80 < s.size
  · have hr := Lib.hid (text_long hl)
    go_enter Try.func33, Try.ntmps33
    go_wp2
    go_ret
    exact ⟨ret_bool hr.out.symm, rfl⟩
  · have hl' : s.size ≤ 80 := by omega
    clear hl
    go_enter Try.func33, Try.ntmps33
    go_wp2
    go_loop [3] (fun i => ∃ k : Nat, k ≤ s.size ∧ i = .int .i64 k ∧ PreT s.data.toList k) (fun i => s.size - (intOf i).toNat)
    case atStart => exact ⟨0, Nat.zero_le _, rfl, rfl⟩
    case round =>
      obtain ⟨k, hk, rfl, hp⟩ := hrel
      by_cases hlt : k < s.size
      · by_cases a : (s[k].toNat : Int) < 32
        · have hr := Lib.hid (text_bad hlt (.inl a))
          go_wp2
          go_ret
          exact ⟨ret_bool hr.out.symm, rfl⟩
        · by_cases b : 126 < (s[k].toNat : Int)
          · have hr := Lib.hid (text_bad hlt (.inr b))
            go_wp2
            go_ret
            exact ⟨ret_bool hr.out.symm, rfl⟩
          · have hp' := preT_next hlt hp (by omega) (by omega)
            have d1 : decide ((s[k].toNat : Int) < 32) = false := by simp; omega
            have d2 : decide (126 < (s[k].toNat : Int)) = false := by simp; omega
            go_wp2
            go_round
            case rel => exact ⟨k + 1, by omega, by go_num, hp'⟩
            case measure => simp [intOf]; omega
      · have hr := Lib.hid (text_pre (by omega) hp)
        have hd : Hid (decide ((s.size : Int) ≤ 80) = true) := Lib.hid (by simp; omega)
        go_wp2
        go_ret
        exact ⟨ret_bool (hd.out.symm.trans hr.out), rfl⟩
end Go.Proofs.Ytoiglenodiomhaa
