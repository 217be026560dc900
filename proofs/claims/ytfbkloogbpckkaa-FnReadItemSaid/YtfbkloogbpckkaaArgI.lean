/-
  The verifier's own text: ArgI.
-/
import Derived.Test.YtfbkloogbpckkaaRows
import Derived.Test.YtfbkloogbpckkaaGa
import Derived.Lib.SmallJoins
import Derived.WalkKit
import Derived.ProofKit
import Derived.Below
import Derived.Lib.Hide
import Derived.Outline
import Derived.BigQuiet
import Derived.Deep.QuietTactic
import Derived.Deep.Draws
import Derived.Laws.OwnMore
import Derived.Laws.Rows
import Derived.WalkSpells
import Derived.Deep.RegionWith
namespace Go.Proofs.Ytfbkloogbpckkaa
open Go.RowKit
set_option linter.unusedVariables false
/-- an item that came in -/
def ArgIt (k t b : ByteArray) (d : Int) : Prop := k.size ≤ maxLen ∧ t.size ≤ maxLen ∧ b.size ≤ maxLen ∧ (Lit.int .i64 d).wf = true
set_option maxRecDepth 100000 in
theorem argIt {H : Type} {en : TypeId × Value → H} {w : World} {base b0 : Nat} {spare : Nat → Bool} {held : Bool} {r : Reach} {v : Value} {x : DataW H} {p : List MemPlace} (hv : Value.okWide Try.prog w r b0 33 v) (h : DataW.Trod en Try.prog w base spare held 33 v x p) :
    ∃ (k t b : ByteArray) (d : Int), v = .agg #[.string k, .string t, .string b, .int .i64 d] ∧ ArgIt k t b d := by
  obtain ⟨v0, v1, v2, v3, y0, y1, y2, y3, n, rfl, _, _, h0, h1, h2, h3⟩ := Go.Joins.open_agg4 Try.underlying33 (by kernel_rfl) (by kernel_rfl) hv h
  obtain ⟨k, e0, _, m0⟩ := DataW.trod_string Try.underlying9 h0
  obtain ⟨t, e1, _, m1⟩ := DataW.trod_string Try.underlying9 h1
  obtain ⟨b, e2, _, m2⟩ := DataW.trod_string Try.underlying9 h2
  obtain ⟨d, e3, _, m3⟩ := DataW.trod_int Try.underlying3 h3
  simp at e0 e1 e2 e3
  exact ⟨k, t, b, d, by rw [e0, e1, e2, e3], m0, m1, m2, m3⟩
/-- a variable of four cells, as it was made, behind whatever kept it -/
theorem row4 {w w1 wX : World} {a b c d : Value} {T : TypeId} (hw : w.alloc (.cells #[a, b, c, d] T) = w1) (hB : Below w1.heap.size w1 wX) :
    wX.cell? ⟨w.heap.size, 0, none⟩ = some a ∧ wX.cell? ⟨w.heap.size, 1, none⟩ = some b ∧ wX.cell? ⟨w.heap.size, 2, none⟩ = some c ∧ wX.cell? ⟨w.heap.size, 3, none⟩ = some d := by
  subst hw
  have hX := (hB.block w.heap.size (by simp)).trans (heap_alloc_new w (.cells #[a, b, c, d] T))
  exact ⟨cell_of_row _ w.heap.size 0 _ _ (0, 0) hX, cell_of_row _ w.heap.size 1 _ _ (0, 0) hX, cell_of_row _ w.heap.size 2 _ _ (0, 0) hX, cell_of_row _ w.heap.size 3 _ _ (0, 0) hX⟩
end Go.Proofs.Ytfbkloogbpckkaa
