/-
  The verifier's own text: DText DDayD.
-/
import Derived.Test.YthjjagfghbljpaaRows
import Derived.Test.YthjjagfghbljpaaGb
import Derived.WalkKit
import Derived.ProofKit
import Derived.Below
import Derived.Lib.Hide
import Derived.Outline
import Derived.BigQuiet
import Derived.Deep.QuietTactic
import Derived.Deep.Draws
import Derived.Laws.OwnMore
import Derived.Laws.Rows
import Derived.WalkSpells
import Derived.Deep.RegionWith
namespace Go.Proofs.Ythjjagfghbljpaa
open Go.RowKit
set_option linter.unusedVariables false
/-- 81 zero bytes, in memory and as a text -/
def Z81 : Array Value := Array.replicate 81 (.int .u8 0)
def S81 : ByteArray := ⟨(List.replicate 81 (0 : UInt8)).toArray⟩
theorem S81_size : S81.size = 81 := by decide
theorem make81 (w : World) : (Instr.makeSlice 22 (.int .i64 81) (.int .i64 81)).run Try.prog w = .ok (.slice (some ⟨w.heap.size, 0, none⟩) 81 81) (w.alloc (.cells Z81 5)) := by kernel_rfl
theorem Z81_get (j : Nat) (h : j < 81) : Z81[j]? = some (.int .u8 0) := by simp [Z81, h]
theorem conv_of (w : World) (b : Nat) (h : ∀ j, w.cell? ⟨b, j, none⟩ = Z81[j]?) : (convert 22 9 (.slice (some ⟨b, 0, none⟩) 81 81)).run Try.prog w = .ok (.string S81) w := by
  have := run_convert_bytes_back (P := Try.prog) w 22 9 5 ⟨b, 0, none⟩ 81 (List.replicate 81 0) Try.underlying22 Try.underlying5 Try.underlying9 (by
    intro j hj
    have hj' : j < 81 := by simpa using hj
    have e : (⟨b, 0, none⟩ : Addr).add j = ⟨b, j, none⟩ := by unfold Addr.add; split <;> simp_all
    rw [e, h, Z81_get j hj', List.getElem_replicate]; rfl)
  simpa [S81] using this
theorem conv_new (w : World) : (convert 22 9 (.slice (some ⟨w.heap.size, 0, none⟩) 81 81)).run Try.prog (w.alloc (.cells Z81 5)) = .ok (.string S81) (w.alloc (.cells Z81 5)) :=
  conv_of _ _ fun j => World.cell?_alloc_new w Z81 _ j
theorem conv_new' (w : World) : (convert 22 9 (.slice (some ⟨w.heap.size, 0, none⟩) 81 81)).run Try.prog (w.alloc (.cells Z81 5)).drew = .ok (.string S81) (w.alloc (.cells Z81 5)).drew :=
  conv_of _ _ fun j => World.cell?_alloc_new w Z81 _ j
theorem el3 (v : Int) (h0 : 0 ≤ v) (h1 : v < 3) : ∃ s : ByteArray, s.size ≤ 81 ∧ (#[Value.string ⟨#[10]⟩, Value.string S81, Value.string ⟨#[97, 127]⟩] : Array Value)[v.toNat]? = some (.string s) ∧ ([Value.string ⟨#[10]⟩, Value.string S81, Value.string ⟨#[97, 127]⟩] : List Value)[v.toNat]? = some (.string s) := by
  obtain rfl | rfl | rfl : v = 0 ∨ v = 1 ∨ v = 2 := by omega
  · exact ⟨_, by decide, rfl, rfl⟩
  · exact ⟨S81, by decide, rfl, rfl⟩
  · exact ⟨_, by decide, rfl, rfl⟩
def DrewInt (W w : World) (g m : Nat) (e : Ending) (w' : World) : Prop := ∃ v : Int, e = .returned (.int .i64 v) ∧ Rd W w' g m ∧ w.grownBy w' (some g)
end Go.Proofs.Ythjjagfghbljpaa
