/-
  The verifier's own text: Own.
-/
import Derived.Test.YtoiglenodiomhaaRows
import Derived.Test.YtoiglenodiomhaaPlain
import Derived.WalkKit
import Derived.ProofKit
import Derived.Below
import Derived.Lib.Hide
import Derived.Outline
import Derived.BigQuiet
import Derived.Deep.QuietTactic
import Derived.Deep.Draws
import Derived.Laws.OwnMore
import Derived.Laws.Rows
import Derived.WalkSpells
import Derived.Deep.RegionWith
namespace Go.Proofs.Ytoiglenodiomhaa
open Go.RowKit
set_option linter.unusedVariables false
theorem add_block (a : Addr) (n : Nat) : (a.add n).block = a.block := by unfold Addr.add; split <;> rfl
theorem cell_far {w : World} {g o : Nat} {q : Addr} (h : q.block ≠ g) (v : Value) : (w.setCell ⟨g, o, none⟩ v).cell? q = w.cell? q :=
  World.cell?_of_block (w := w) (Below.heap_setCell w _ v q.block h)
theorem cell_of_two {w : World} {g : Nat} {a b : Value} {t : TypeId} (h : w.heap[g]? = some (.cells #[a, b] t (0, 0))) : w.cell? ⟨g, 0, none⟩ = some a ∧ w.cell? ⟨g, 1, none⟩ = some b ∧ w.frozen? ⟨g, 1, none⟩ = false := by
  refine ⟨cell_of_row w g 0 _ t (0, 0) h, cell_of_row w g 1 _ t (0, 0) h, ?_⟩
  simp [World.frozen?, h]
theorem only_setCell' (w : World) (g o : Nat) (u : Value) : w.grownBy (w.setCell ⟨g, o, none⟩ u) (some g) :=
  ⟨rfl, rfl, rfl, by simp [World.setCell], fun i _ hne => Below.heap_setCell w _ u i (fun e => hne (by rw [e]))⟩
theorem only_drewN {a w : World} {row : Option Nat} (h : a.grownBy w row) (n : Nat) : a.grownBy (w.drewN n) row := ⟨h.os, h.tape, h.output, h.size, h.block⟩
theorem grown_refl (w : World) (row : Option Nat) : w.grownBy w row := ⟨rfl, rfl, rfl, Nat.le_refl _, fun _ _ _ => rfl⟩
theorem grown_trans {a b c : World} {row : Option Nat} (h : a.grownBy b row) (k : b.grownBy c row) : a.grownBy c row :=
  ⟨k.os.trans h.os, k.tape.trans h.tape, k.output.trans h.output, Nat.le_trans h.size k.size, fun i hi hne => (k.block i (Nat.lt_of_lt_of_le hi h.size) hne).trans (h.block i hi hne)⟩
theorem grown_alloc (w : World) (o : Obj) (row : Option Nat) : w.grownBy (w.alloc o) row := World.grownBy_alloc w o row
/-- the cells of a block that was made just before somebody picked -/
theorem cell_kept {w w' : World} {cs : Array Value} {t : TypeId} {g : Nat} (hg : (w.alloc (.cells cs t)).grownBy w' (some g)) (hlt : g < w.heap.size) (i : Nat) : w'.cell? ⟨w.heap.size, i, none⟩ = cs[i]? := by
  have e : w'.heap[w.heap.size]? = (w.alloc (.cells cs t)).heap[w.heap.size]? := hg.block _ (by simp) (by intro h; injection h; omega)
  exact (World.cell?_of_block (w := w.alloc (.cells cs t)) (a := ⟨w.heap.size, i, none⟩) e).trans (World.cell?_alloc_new w cs t i)
theorem kept_cell {a w' : World} {g : Nat} (hg : a.grownBy w' (some g)) (b i : Nat) (hne : b ≠ g) (hlt : b < a.heap.size) : w'.cell? ⟨b, i, none⟩ = a.cell? ⟨b, i, none⟩ :=
  World.cell?_of_block (w := a) (a := ⟨b, i, none⟩) (hg.block b hlt (by intro h; injection h; omega))
theorem kept_two {w w' : World} {o : Obj} {cs : Array Value} {t : TypeId} {g : Nat} (hg : (((w.alloc o).alloc (.cells cs t)).drew).grownBy w' (some g)) (hlt : g < w.heap.size) (i : Nat) : w'.cell? ⟨w.heap.size + 1, i, none⟩ = cs[i]? := by
  rw [kept_cell hg (w.heap.size + 1) i (by omega) (by show _ < ((w.alloc o).alloc _).heap.size; simp)]
  have := World.cell?_alloc_new (w.alloc o) cs t i
  simp
theorem kept_two' {w w' : World} {o : Obj} {cs : Array Value} {t : TypeId} {g : Nat} (hg : ((w.alloc o).alloc (.cells cs t)).grownBy w' (some g)) (hlt : g < w.heap.size) (i : Nat) : w'.cell? ⟨w.heap.size + 1, i, none⟩ = cs[i]? :=
  kept_two (o := o) (t := t) ⟨hg.os, hg.tape, hg.output, hg.size, hg.block⟩ hlt i
theorem kept_one {w w' : World} {cs : Array Value} {t : TypeId} {g : Nat} (hg : ((w.alloc (.cells cs t)).drew).grownBy w' (some g)) (hlt : g < w.heap.size) (i : Nat) : w'.cell? ⟨w.heap.size, i, none⟩ = cs[i]? :=
  cell_kept (w := w) (cs := cs) (t := t) (w' := w') (g := g) ⟨hg.os, hg.tape, hg.output, hg.size, hg.block⟩ hlt i
theorem gs_alloc {a w : World} {row : Option Nat} (h : a.grownBy w row) (o : Obj) : a.grownBy (w.alloc o) row := grown_trans h (grown_alloc w o row)
theorem gs_drew {a w : World} {row : Option Nat} (h : a.grownBy w row) : a.grownBy w.drew row := ⟨h.os, h.tape, h.output, h.size, h.block⟩
theorem kept_two1 {w w' : World} {cs0 cs : Array Value} {t0 t : TypeId} {g : Nat} (hg : ((w.alloc (.cells cs0 t0)).alloc (.cells cs t)).grownBy w' (some g)) (hlt : g < w.heap.size) (i : Nat) : w'.cell? ⟨w.heap.size, i, none⟩ = cs0[i]? := by
  rw [kept_cell hg w.heap.size i (by omega) (by simp; omega)]
  have h1 := World.cell?_alloc_lt (w.alloc (.cells cs0 t0)) (.cells cs t) ⟨w.heap.size, i, none⟩ (by simp)
  rw [h1]; exact World.cell?_alloc_new w cs0 t0 i
end Go.Proofs.Ytoiglenodiomhaa
