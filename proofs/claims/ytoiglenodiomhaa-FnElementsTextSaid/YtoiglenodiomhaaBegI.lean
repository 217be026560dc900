/-
  The verifier's own text: BegI.
-/
import Derived.Test.YtoiglenodiomhaaRows
import Derived.Test.YtoiglenodiomhaaEscMath
import Derived.Test.YtoiglenodiomhaaGot
import Derived.WalkKit
import Derived.ProofKit
import Derived.Below
import Derived.Lib.Hide
import Derived.Outline
import Derived.BigQuiet
import Derived.Deep.QuietTactic
import Derived.Deep.Draws
import Derived.Laws.OwnMore
import Derived.Laws.Rows
import Derived.WalkSpells
import Derived.Deep.RegionWith
namespace Go.Proofs.Ytoiglenodiomhaa
open Go.RowKit
set_option linter.unusedVariables false
theorem take_size {s b : ByteArray} (h : s.size < b.size) : decide (s.data.toList.take b.size = b.data.toList) = false := by
  apply decide_eq_false; intro e
  have := congrArg List.length e
  rw [List.length_take, blen, blen] at this; omega
theorem take_ext (s b : ByteArray) : (s.extract 0 b.size = b) ↔ s.data.toList.take b.size = b.data.toList := by
  constructor
  · intro e
    have := congrArg (fun x : ByteArray => x.data.toList) e
    simpa using this
  · intro e
    apply ByteArray.ext; apply Array.toList_inj.1
    simpa using e
theorem beg_any (s b : ByteArray) (w : World) (hs : s.size ≤ maxLen) (hb : b.size ≤ maxLen) :
    Calls Try.prog 58 #[.string s, .string b] w fun e w' => e = .returned (.bool (decide (s.data.toList.take b.size = b.data.toList))) ∧ w = w' := by
  unfold maxLen at hs hb
  by_cases hlt : s.size < b.size
  · have hr := Lib.hid (take_size hlt)
    go_enter Try.func58, Try.ntmps58
    go_wp2
    go_ret
    exact ⟨ret_bool hr.out.symm, rfl⟩
  · have hle : b.size ≤ s.size := by omega
    by_cases he : s.extract 0 b.size = b
    · have hr : Hid (decide (s.data.toList.take b.size = b.data.toList) = true) := Lib.hid (decide_eq_true ((take_ext s b).1 he))
      have q := str_same he
      clear he
      go_enter Try.func58, Try.ntmps58
      go_wp2
      go_ret
      exact ⟨ret_bool hr.out.symm, rfl⟩
    · have hr : Hid (decide (s.data.toList.take b.size = b.data.toList) = false) := Lib.hid (decide_eq_false (fun e => he ((take_ext s b).2 e)))
      have q := str_other he
      clear he
      go_enter Try.func58, Try.ntmps58
      go_wp2
      go_ret
      exact ⟨ret_bool hr.out.symm, rfl⟩
end Go.Proofs.Ytoiglenodiomhaa
