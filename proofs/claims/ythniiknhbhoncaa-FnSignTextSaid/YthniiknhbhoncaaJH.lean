/-
  The verifier's own text: DMonth DDayN.
-/
import Derived.Test.YthniiknhbhoncaaRows
import Derived.Test.YthniiknhbhoncaaGb
import Derived.IntWalk
import Derived.WalkKit
import Derived.ProofKit
import Derived.Below
import Derived.Lib.Hide
import Derived.Outline
import Derived.BigQuiet
import Derived.Deep.QuietTactic
import Derived.Deep.Draws
import Derived.Laws.OwnMore
import Derived.Laws.Rows
import Derived.WalkSpells
import Derived.Deep.RegionWith
namespace Go.Proofs.Ythniiknhbhoncaa
open Go.RowKit
set_option linter.unusedVariables false
def DrawnInt2 (w : World) (e : Ending) (w' : World) : Prop := ∃ v u : Int, e = .returned (.tuple #[.int .i64 v, .int .i64 u]) ∧ Below w.heap.size w w'
theorem of_two (x y : Int) (v : Int) (h0 : 0 ≤ v) (h1 : v < 2) : ∃ z : Int, (#[Value.int .i64 x, Value.int .i64 y] : Array Value)[v.toNat]? = some (.int .i64 z) ∧ (∀ h : v.toNat < [Value.int .i64 x, Value.int .i64 y].length, [Value.int .i64 x, Value.int .i64 y][v.toNat] = .int .i64 z) := by
  obtain rfl | rfl : v = 0 ∨ v = 1 := by omega
  · exact ⟨_, rfl, fun _ => rfl⟩
  · exact ⟨_, rfl, fun _ => rfl⟩
def DrawnInt3 (w : World) (e : Ending) (w' : World) : Prop := ∃ v u t : Int, e = .returned (.tuple #[.int .i64 v, .int .i64 u, .int .i64 t]) ∧ Below w.heap.size w w'
theorem CodeArg.below {w w' : World} {A : Option Addr} {n c : Nat} (h : CodeArg w A n c) (hb : Below w.heap.size w w') : CodeArg w' A n c := by
  obtain ⟨h1, h2, h3⟩ := h
  refine ⟨h1, h2, fun hn => ?_⟩
  obtain ⟨ad, e, hl, hc⟩ := h3 hn
  refine ⟨ad, e, Nat.lt_of_lt_of_le hl hb.size, fun i hi => ?_⟩
  obtain ⟨z, hz, b1, b2⟩ := hc i hi
  exact ⟨z, (hb.cell (p := ad.add i) (by rw [add_block]; exact hl)).trans hz, b1, b2⟩
theorem of_three (x y u : Int) (v : Int) (h0 : 0 ≤ v) (h1 : v < 3) : ∃ z : Int, (#[Value.int .i64 x, Value.int .i64 y, Value.int .i64 u] : Array Value)[v.toNat]? = some (.int .i64 z) ∧ (∀ h : v.toNat < [Value.int .i64 x, Value.int .i64 y, Value.int .i64 u].length, [Value.int .i64 x, Value.int .i64 y, Value.int .i64 u][v.toNat] = .int .i64 z) := by
  obtain rfl | rfl | rfl : v = 0 ∨ v = 1 ∨ v = 2 := by omega
  · exact ⟨_, rfl, fun _ => rfl⟩
  · exact ⟨_, rfl, fun _ => rfl⟩
  · exact ⟨_, rfl, fun _ => rfl⟩
theorem of_five (v : Int) (h0 : 0 ≤ v) (h1 : v < 5) : ∃ z : Int, 0 ≤ z ∧ z < 3 ∧ (#[Value.int .i64 0, Value.int .i64 0, Value.int .i64 1, Value.int .i64 1, Value.int .i64 2] : Array Value)[v.toNat]? = some (.int .i64 z) ∧ (∀ h : v.toNat < [Value.int .i64 0, Value.int .i64 0, Value.int .i64 1, Value.int .i64 1, Value.int .i64 2].length, [Value.int .i64 0, Value.int .i64 0, Value.int .i64 1, Value.int .i64 1, Value.int .i64 2][v.toNat] = .int .i64 z) := by
  obtain rfl | rfl | rfl | rfl | rfl : v = 0 ∨ v = 1 ∨ v = 2 ∨ v = 3 ∨ v = 4 := by omega
  · exact ⟨0, by omega, by omega, rfl, fun _ => rfl⟩
  · exact ⟨0, by omega, by omega, rfl, fun _ => rfl⟩
  · exact ⟨1, by omega, by omega, rfl, fun _ => rfl⟩
  · exact ⟨1, by omega, by omega, rfl, fun _ => rfl⟩
  · exact ⟨2, by omega, by omega, rfl, fun _ => rfl⟩
/-- a block that reads as A5 -/
def Is5 (w : World) (b : Nat) : Prop := ∀ i, w.cell? ⟨b, i, none⟩ = (#[Value.int .i64 0, Value.int .i64 0, Value.int .i64 1, Value.int .i64 1, Value.int .i64 2] : Array Value)[i]?
theorem Is5.lt {w : World} {b : Nat} (h : Is5 w b) : b < w.heap.size := block_lt_of_cell (h 0)
theorem Is5.alloc {w : World} {b : Nat} (h : Is5 w b) (o : Obj) : Is5 (w.alloc o) b := fun i => (World.cell?_alloc_lt w o ⟨b, i, none⟩ h.lt).trans (h i)
theorem Is5.keep {a w' : World} {g b : Nat} (h : Is5 a b) (hg : a.grownBy w' (some g)) (hne : g < b) : Is5 w' b := fun i => (kept_cell hg b i (by omega) h.lt).trans (h i)
theorem below_tr {a b c : World} (h : Below a.heap.size a b) (k : Below b.heap.size b c) : Below a.heap.size a c := h.trans (k.mono h.size)
end Go.Proofs.Ythniiknhbhoncaa
