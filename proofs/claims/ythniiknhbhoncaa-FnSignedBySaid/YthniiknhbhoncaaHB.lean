/-
  The verifier's own text: DHand DHand2 DHand3.
-/
import Derived.Test.YthniiknhbhoncaaRows
import Derived.Test.YthniiknhbhoncaaGs
import Derived.Test.YthniiknhbhoncaaHA
import Derived.WalkKit
import Derived.ProofKit
import Derived.Below
import Derived.Lib.Hide
import Derived.Outline
import Derived.BigQuiet
import Derived.Deep.QuietTactic
import Derived.Deep.Draws
import Derived.Laws.OwnMore
import Derived.Laws.Rows
import Derived.WalkSpells
import Derived.Deep.RegionWith
namespace Go.Proofs.Ythniiknhbhoncaa
open Go.RowKit
set_option linter.unusedVariables false
/-- what the operations of the region yield -/
def QH (B g : Nat) (n : Int) (j : Nat) (v : Value) (w : World) : Prop :=
  match j with
  | 0 => v = .pointer (some ⟨g, 0, none⟩)
  | 1 => v = .int .i64 n
  | 2 => StrIs 9 v
  | 3 => ∃ cs : Array Value, cs.size = 4 ∧ ShortRow 9 cs ∧ LitAt B g 4 cs v w
  | 4 => v = .pointer (some ⟨g, 0, none⟩)
  | 5 => IntUp 4 v
  | 6 => StrAt g 9 v w
  | 7 => StrIs 9 v
  | 8 => v = .pointer (some ⟨g, 0, none⟩)
  | 9 => v = .int .i64 n
  | 10 => StrIs 9 v
  | 11 => ∃ cs : Array Value, cs.size = 3 ∧ ShortRow 9 cs ∧ LitAt B g 3 cs v w
  | 12 => v = .pointer (some ⟨g, 0, none⟩)
  | 13 => IntUp 3 v
  | 14 => StrAt g 9 v w
  | 15 => StrIs 9 v
  | 16 => ∃ s0 s1 : ByteArray, v = .agg #[.string s0, .string s1] ∧ s0.size ≤ 9 ∧ s1.size ≤ 9
  | _ => False
theorem QH_mono {B g : Nat} {n : Int} (j : Nat) (v : Value) (w w' : World) (_ : j < 17) (h : QH B g n j v w) (hg : w.grownBy w' (some g)) : QH B g n j v w' := by
  match j, h with
  | 0, h => exact h
  | 1, h => exact h
  | 2, h => exact h
  | 3, h => obtain ⟨cs, h1, h2, h3⟩ := h; exact ⟨cs, h1, h2, LitAt.mono h3 hg⟩
  | 4, h => exact h
  | 5, h => exact h
  | 6, h => exact StrAt.mono h hg
  | 7, h => exact h
  | 8, h => exact h
  | 9, h => exact h
  | 10, h => exact h
  | 11, h => obtain ⟨cs, h1, h2, h3⟩ := h; exact ⟨cs, h1, h2, LitAt.mono h3 hg⟩
  | 12, h => exact h
  | 13, h => exact h
  | 14, h => exact StrAt.mono h hg
  | 15, h => exact h
  | 16, h => exact h
/-- a struct of texts that was drawn, and the reader -/
def DrewH (W w : World) (g m : Nat) (e : Ending) (w' : World) : Prop := ∃ s0 s1 : ByteArray, e = .returned (.agg #[.string s0, .string s1]) ∧ s0.size ≤ 9 ∧ s1.size ≤ 9 ∧ Rd W w' g m ∧ w.grownBy w' (some g)
def DrawnH (w : World) (e : Ending) (w' : World) : Prop := ∃ s0 s1 : ByteArray, e = .returned (.agg #[.string s0, .string s1]) ∧ s0.size ≤ 9 ∧ s1.size ≤ 9 ∧ Below w.heap.size w w'
theorem fitHn_short {a b : ByteArray} (h0 : a.size ≤ 9) (h1 : b.size ≤ 9) : FitHn ⟨a, b⟩ := ⟨by show a.size ≤ _; omega, by show b.size ≤ _; omega⟩
def DrawnH2 (w : World) (e : Ending) (w' : World) : Prop := ∃ s0 s1 s2 s3 : ByteArray, e = .returned (.tuple #[.agg #[.string s0, .string s1], .agg #[.string s2, .string s3]]) ∧ Below w.heap.size w w'
theorem hnB_swap (a b : ByteArray) : hnB ⟨b, a⟩ = hnB ⟨a, b⟩ := by unfold hnB; exact Bool.and_comm _ _
end Go.Proofs.Ythniiknhbhoncaa
