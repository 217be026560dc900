/-
  The verifier's own text: RDateS.
-/
import Derived.Test.YthniiknhbhoncaaRows
import Derived.Test.YthniiknhbhoncaaGe
import Derived.Test.YthniiknhbhoncaaGf
import Derived.RegionTactic
import Derived.ChangeAlike
import Derived.WalkKit
import Derived.ProofKit
import Derived.Below
import Derived.Lib.Hide
import Derived.Outline
import Derived.BigQuiet
import Derived.Deep.QuietTactic
import Derived.Deep.Draws
import Derived.Laws.OwnMore
import Derived.Laws.Rows
import Derived.WalkSpells
import Derived.Deep.RegionWith
namespace Go.Proofs.Ythniiknhbhoncaa
open Go.RowKit
set_option linter.unusedVariables false
/-- the list of three -/
def L3 (w : World) (B : Nat) (s : Scn) : Prop := w.heap[B]? = some (.cells #[.int .i64 s.a, .int .i64 s.b, .int .i64 s.c] 3 (0, 0))
theorem l3_new (w : World) : L3 (w.alloc (.cells #[.int .i64 0, .int .i64 0, .int .i64 0] 3)) w.heap.size ⟨0, 0, 0, 0⟩ := heap_alloc_new w _
theorem l3_cell {w : World} {B : Nat} {s : Scn} (h : L3 w B s) : w.cell? ⟨B, 0, none⟩ = some (.int .i64 s.a) ∧ w.cell? ⟨B, 1, none⟩ = some (.int .i64 s.b) ∧ w.cell? ⟨B, 2, none⟩ = some (.int .i64 s.c) ∧ w.frozen? ⟨B, 0, none⟩ = false ∧ w.frozen? ⟨B, 1, none⟩ = false ∧ w.frozen? ⟨B, 2, none⟩ = false := by
  refine ⟨cell_of_row w B 0 _ _ (0, 0) h, cell_of_row w B 1 _ _ (0, 0) h, cell_of_row w B 2 _ _ (0, 0) h, ?_, ?_, ?_⟩ <;> simp [World.frozen?, show w.heap[B]? = _ from h]
theorem l3_set0 {w : World} {B t : Nat} {a b c v : Int} (h : L3 w B ⟨t, a, b, c⟩) : L3 (w.setCell ⟨B, 0, none⟩ (.int .i64 v)) B ⟨t, v, b, c⟩ := by
  unfold L3 at h ⊢; simp [World.setCell, Array.getElem?_modify, h]
theorem l3_set1 {w : World} {B t : Nat} {a b c v : Int} (h : L3 w B ⟨t, a, b, c⟩) : L3 (w.setCell ⟨B, 1, none⟩ (.int .i64 v)) B ⟨t, a, v, c⟩ := by
  unfold L3 at h ⊢; simp [World.setCell, Array.getElem?_modify, h]
theorem l3_set2 {w : World} {B t : Nat} {a b c v : Int} (h : L3 w B ⟨t, a, b, c⟩) : L3 (w.setCell ⟨B, 2, none⟩ (.int .i64 v)) B ⟨t, a, b, v⟩ := by
  unfold L3 at h ⊢; simp [World.setCell, Array.getElem?_modify, h]
theorem l3_drewN {w : World} {B n : Nat} {s : Scn} (h : L3 w B s) : L3 (w.drewN n) B s := h
theorem l3_drew {w : World} {B : Nat} {s : Scn} (h : L3 w B s) : L3 w.drew B s := h
end Go.Proofs.Ythniiknhbhoncaa
