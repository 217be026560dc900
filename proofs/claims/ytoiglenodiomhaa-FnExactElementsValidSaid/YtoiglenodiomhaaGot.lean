/-
  The verifier's own text: Got.
-/
import Derived.Test.YtoiglenodiomhaaRows
import Derived.Test.YtoiglenodiomhaaPlain
import Derived.Laws.NewBlocks
import Derived.Laws.IdiomStrings
import Derived.WalkKit
import Derived.ProofKit
import Derived.Below
import Derived.Lib.Hide
import Derived.Outline
import Derived.BigQuiet
import Derived.Deep.QuietTactic
import Derived.Deep.Draws
import Derived.Laws.OwnMore
import Derived.Laws.Rows
import Derived.WalkSpells
import Derived.Deep.RegionWith
namespace Go.Proofs.Ytoiglenodiomhaa
open Go.RowKit
set_option linter.unusedVariables false
/-- a text, and memory that grew -/
def GotStr (l : List UInt8) (w : World) (e : Ending) (w' : World) : Prop := e = .returned (.string (bs l)) ∧ Below w.heap.size w w'
theorem below_trans {a b c : World} (h : Below a.heap.size a b) (k : Below b.heap.size b c) : Below a.heap.size a c := h.trans (k.mono h.size)
theorem below_trans' {a b c : World} (h : Below a.heap.size a b) (k : Below b.heap.size b c) : Below a.heap.size a c := h.trans (k.mono h.size)
theorem back_of (w : World) (b : Nat) (l : List UInt8) (k : Nat) (hk : l.length = k) (c : Nat) (h : ∀ j (hj : j < l.length), w.cell? ⟨b, j, none⟩ = some (.int .u8 l[j].toNat)) : (convert 22 9 (.slice (some ⟨b, 0, none⟩) k c)).run Try.prog w = .ok (.string (bs l)) w := by
  subst hk
  exact run_convert_bytes_back (P := Try.prog) w 22 9 5 ⟨b, 0, none⟩ c l Try.underlying22 Try.underlying5 Try.underlying9 (by
    intro j hj
    have e : (⟨b, 0, none⟩ : Addr).add j = ⟨b, j, none⟩ := by unfold Addr.add; split <;> simp_all
    rw [e]; exact h j hj)
theorem conv1 (w : World) (a : UInt8) : (convert 22 9 (.slice (some ⟨w.heap.size, 0, none⟩) 1 1)).run Try.prog (w.alloc (.cells #[.int .u8 a.toNat] 5)) = .ok (.string (bs [a])) (w.alloc (.cells #[.int .u8 a.toNat] 5)) :=
  back_of _ _ [a] 1 rfl 1 (by
    intro j hj
    rw [World.cell?_alloc_new w _ _ j]
    match j, hj with
    | 0, _ => rfl)
end Go.Proofs.Ytoiglenodiomhaa
