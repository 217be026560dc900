/-
  The verifier's own text: NameS.
-/
import Derived.Test.YtoiglenodiomhaaRows
import Derived.Test.YtoiglenodiomhaaEscMath
import Derived.WalkKit
import Derived.ProofKit
import Derived.Below
import Derived.Lib.Hide
import Derived.Outline
import Derived.BigQuiet
import Derived.Deep.QuietTactic
import Derived.Deep.Draws
import Derived.Laws.OwnMore
import Derived.Laws.Rows
import Derived.WalkSpells
import Derived.Deep.RegionWith
namespace Go.Proofs.Ytoiglenodiomhaa
open Go.RowKit
set_option linter.unusedVariables false
theorem l3Name_any (c : UInt8) (w : World) :
    Calls Try.prog 54 #[.int .u8 c.toNat] w fun e w' => e = .returned (.string (bs (nmL c))) ∧ w = w' := by
  have hc := nm_cases c
  have ne : ∀ d : UInt8, c ≠ d → (((c.toNat : Nat) : Int) == ((d.toNat : Nat) : Int)) = false := by
    intro d h; rw [beq_eq_false_iff_ne]; intro e; apply h; apply UInt8.toNat_inj.1; omega
  rcases hc with ⟨rfl, h⟩ | ⟨rfl, h⟩ | ⟨rfl, h⟩ | ⟨rfl, h⟩ | ⟨a1, a2, a3, a4, h⟩
  · clear ne
    have h := Lib.hid h
    go_enter Try.func54, Try.ntmps54
    go_wp2
    go_ret
    exact ⟨by rw [h.out]; rfl, rfl⟩
  · clear ne
    have h := Lib.hid h
    go_enter Try.func54, Try.ntmps54
    go_wp2
    go_ret
    exact ⟨by rw [h.out]; rfl, rfl⟩
  · clear ne
    have h := Lib.hid h
    go_enter Try.func54, Try.ntmps54
    go_wp2
    go_ret
    exact ⟨by rw [h.out]; rfl, rfl⟩
  · clear ne
    have h := Lib.hid h
    go_enter Try.func54, Try.ntmps54
    go_wp2
    go_ret
    exact ⟨by rw [h.out]; rfl, rfl⟩
  · have h := Lib.hid h
    have b1 : ((c.toNat : Int) == 38) = false := ne 38 a1
    have b2 : ((c.toNat : Int) == 60) = false := ne 60 a2
    have b3 : ((c.toNat : Int) == 62) = false := ne 62 a3
    have b4 : ((c.toNat : Int) == 34) = false := ne 34 a4
    clear ne a1 a2 a3 a4
    go_enter Try.func54, Try.ntmps54
    go_wp2
    go_ret
    exact ⟨by rw [h.out]; rfl, rfl⟩
end Go.Proofs.Ytoiglenodiomhaa
