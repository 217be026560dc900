/-
  The verifier's own text: Alive.
-/
import Derived.Test.YtoiglenodiomhaaRows
import Derived.Test.YtoiglenodiomhaaWordI
import Derived.WalkKit
import Derived.ProofKit
import Derived.Below
import Derived.Lib.Hide
import Derived.Outline
import Derived.BigQuiet
import Derived.Deep.QuietTactic
import Derived.Deep.Draws
import Derived.Laws.OwnMore
import Derived.Laws.Rows
import Derived.WalkSpells
import Derived.Deep.RegionWith
namespace Go.Proofs.Ytoiglenodiomhaa
open Go.RowKit
set_option linter.unusedVariables false
theorem alive_any (w : World) : Calls Try.prog 14 #[] w fun e w' => e = .returned (.bool true) ∧ w = w' := by
  have h1 : Hid (wordB (ByteArray.mk #[97, 49]).data.toList = true) := Lib.hid (by decide)
  have h2 : Hid (wordB (ByteArray.mk #[49, 97]).data.toList = false) := Lib.hid (by decide)
  go_enter Try.func14, Try.ntmps14
  go_wp2_with (first | (go_at_call 32; ((with_reducible refine (word_any ⟨#[97, 49]⟩ _ (by decide)).mono ?_); rintro e w' ⟨rfl, rfl⟩; rw [h1.out])) | (go_at_call 32; ((with_reducible refine (word_any ⟨#[49, 97]⟩ _ (by decide)).mono ?_); rintro e w' ⟨rfl, rfl⟩; rw [h2.out])))
  go_ret
  exact ⟨rfl, rfl⟩
end Go.Proofs.Ytoiglenodiomhaa
