/-
  The verifier's own text: DayS DateTS.
-/
import Derived.Test.YthniiknhbhoncaaRows
import Derived.Test.YthniiknhbhoncaaGe
import Derived.Test.YthniiknhbhoncaaGc
import Derived.Test.YthniiknhbhoncaaGb
import Derived.Laws.NewBlocks
import Derived.WalkKit
import Derived.ProofKit
import Derived.Below
import Derived.Lib.Hide
import Derived.Outline
import Derived.BigQuiet
import Derived.Deep.QuietTactic
import Derived.Deep.Draws
import Derived.Laws.OwnMore
import Derived.Laws.Rows
import Derived.WalkSpells
import Derived.Deep.RegionWith
namespace Go.Proofs.Ythniiknhbhoncaa
open Go.RowKit
set_option linter.unusedVariables false
/-- an int, and memory that grew -/
def GotInt (v : Int) (w : World) (e : Ending) (w' : World) : Prop := e = .returned (.int .i64 v) ∧ Below w.heap.size w w'
theorem dayN_last : dayN 4000 12 31 = 1460969 := by decide
/-- the first day of a year, of a month -/
theorem dayN_y1 {k : Int} (a : 1 ≤ k) (b : k ≤ 4000) : dayN k 1 1 = dby k := by
  have hd : IsD k 1 1 := ⟨a, b, by omega, by omega, by omega, by have := md12_bd k 1; omega⟩
  rw [dayN_in hd]; unfold numD; rw [dbm_one]; omega
theorem dayN_m1 {y k : Int} (a : 1 ≤ y) (b : y ≤ 4000) (c : 1 ≤ k) (d : k ≤ 12) : dayN y k 1 = dby y + dbm y k := by
  have hd : IsD y k 1 := ⟨a, b, c, d, by omega, by have := md12_bd y k; omega⟩
  rw [dayN_in hd]; unfold numD; omega
/-- the numbers of the digits, -1 for a point -/
def dI (y m d : Int) : List Int := [y / 1000, y / 100 % 10, y / 10 % 10, y % 10, -1, m / 10, m % 10, -1, d / 10, d % 10]
theorem dI_at (y m d : Int) (h : 0 ≤ y) (h' : y ≤ 9999) (i : 0 ≤ m) (i' : m ≤ 99) (j : 0 ≤ d) (j' : d ≤ 99) (k : Nat) (hk : k < 10) :
    ((dI y m d).getD k 0 = -1 ∧ (dateL y m d).take (k + 1) = (dateL y m d).take k ++ [46]) ∨ (0 ≤ (dI y m d).getD k 0 ∧ (dI y m d).getD k 0 ≤ 9 ∧ (dateL y m d).take (k + 1) = (dateL y m d).take k ++ [dg ((dI y m d).getD k 0)]) := by
  obtain rfl | rfl | rfl | rfl | rfl | rfl | rfl | rfl | rfl | rfl : k = 0 ∨ k = 1 ∨ k = 2 ∨ k = 3 ∨ k = 4 ∨ k = 5 ∨ k = 6 ∨ k = 7 ∨ k = 8 ∨ k = 9 := by omega
  · exact .inr ⟨by show 0 ≤ y / 1000; omega, by show y / 1000 ≤ 9; omega, rfl⟩
  · exact .inr ⟨by show 0 ≤ y / 100 % 10; omega, by show y / 100 % 10 ≤ 9; omega, rfl⟩
  · exact .inr ⟨by show 0 ≤ y / 10 % 10; omega, by show y / 10 % 10 ≤ 9; omega, rfl⟩
  · exact .inr ⟨by show 0 ≤ y % 10; omega, by show y % 10 ≤ 9; omega, rfl⟩
  · exact .inl ⟨rfl, rfl⟩
  · exact .inr ⟨by show 0 ≤ m / 10; omega, by show m / 10 ≤ 9; omega, rfl⟩
  · exact .inr ⟨by show 0 ≤ m % 10; omega, by show m % 10 ≤ 9; omega, rfl⟩
  · exact .inl ⟨rfl, rfl⟩
  · exact .inr ⟨by show 0 ≤ d / 10; omega, by show d / 10 ≤ 9; omega, rfl⟩
  · exact .inr ⟨by show 0 ≤ d % 10; omega, by show d % 10 ≤ 9; omega, rfl⟩
/-- a block that reads as the digits' numbers -/
def Dcells (w : World) (b : Nat) (y m d : Int) : Prop := ∀ j, j < 10 → w.cell? ⟨b, j, none⟩ = some (.int .i64 ((dI y m d).getD j 0))
theorem dcells_new (w : World) (y m d : Int) (t : TypeId) : Dcells (w.alloc (.cells #[.int .i64 (y / 1000), .int .i64 (y / 100 % 10), .int .i64 (y / 10 % 10), .int .i64 (y % 10), .int .i64 (-1), .int .i64 (m / 10), .int .i64 (m % 10), .int .i64 (-1), .int .i64 (d / 10), .int .i64 (d % 10)] t)) w.heap.size y m d := by
  intro j hj
  rw [World.cell?_alloc_new]
  obtain rfl | rfl | rfl | rfl | rfl | rfl | rfl | rfl | rfl | rfl : j = 0 ∨ j = 1 ∨ j = 2 ∨ j = 3 ∨ j = 4 ∨ j = 5 ∨ j = 6 ∨ j = 7 ∨ j = 8 ∨ j = 9 := by omega
  all_goals rfl
theorem dcells_alloc {w : World} {b : Nat} {y m d : Int} (h : Dcells w b y m d) (o : Obj) : Dcells (w.alloc o) b y m d := by
  intro j hj
  have hc := h j hj
  have hl := block_lt_of_cell hc
  rw [World.cell?_alloc_lt w o ⟨b, j, none⟩ hl]; exact hc
theorem bs46 (l : List UInt8) : bs l ++ ⟨#[46]⟩ = bs (l ++ [46]) := by rw [← bs_append]; rfl
end Go.Proofs.Ythniiknhbhoncaa
