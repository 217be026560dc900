/-
  The verifier's own text: DAct DAct2.
-/
import Derived.Test.YthniiknhbhoncaaRows
import Derived.Test.YthniiknhbhoncaaGs
import Derived.Test.YthniiknhbhoncaaHC
import Derived.Test.YthniiknhbhoncaaHA
import Derived.Test.YthniiknhbhoncaaHD
import Derived.WalkKit
import Derived.ProofKit
import Derived.Below
import Derived.Lib.Hide
import Derived.Outline
import Derived.BigQuiet
import Derived.Deep.QuietTactic
import Derived.Deep.Draws
import Derived.Laws.OwnMore
import Derived.Laws.Rows
import Derived.WalkSpells
import Derived.Deep.RegionWith
namespace Go.Proofs.Ythniiknhbhoncaa
open Go.RowKit
set_option linter.unusedVariables false
/-- an actor that was drawn, and the reader -/
def DrewAc (W w : World) (g m : Nat) (e : Ending) (w' : World) : Prop := ∃ y : Ac, e = .returned (aggAc y) ∧ ShAc y ∧ Rd W w' g m ∧ w.grownBy w' (some g)
/-- a store into new memory -/
theorem gs_set {a w : World} {row : Option Nat} (h : a.grownBy w row) {b : Nat} (hb : a.heap.size ≤ b) (j : Nat) (u : Value) : a.grownBy (w.setCell ⟨b, j, none⟩ u) row :=
  ⟨h.os, h.tape, h.output, Nat.le_trans h.size (by simp [World.setCell]), fun k hk hne => (Below.heap_setCell w ⟨b, j, none⟩ u k (by intro e; have : k = b := e; omega)).trans (h.block k hk hne)⟩
/-- what the operations of the region yield -/
def QAc (B g : Nat) (n : Int) (j : Nat) (v : Value) (w : World) : Prop :=
  match j with
  | 0 => v = .pointer (some ⟨g, 0, none⟩)
  | 1 => StrIs 9 v
  | 2 => ∃ cs : Array Value, cs.size = 5 ∧ ShortRow 2 cs ∧ LitAt B g 5 cs v w
  | 3 => v = .pointer (some ⟨g, 0, none⟩)
  | 4 => IntUp 5 v
  | 5 => StrAt g 2 v w
  | 6 => StrIs 2 v
  | 7 => v = .pointer (some ⟨g, 0, none⟩)
  | 8 => IntUp 9 v
  | 9 => ∃ y : Ac, v = aggAc y ∧ ShAc y
  | _ => False
theorem QAc_mono {B g : Nat} {n : Int} (j : Nat) (v : Value) (w w' : World) (_ : j < 10) (h : QAc B g n j v w) (hg : w.grownBy w' (some g)) : QAc B g n j v w' := by
  match j, h with
  | 0, h => exact h
  | 1, h => exact h
  | 2, h => obtain ⟨cs, h1, h2, h3⟩ := h; exact ⟨cs, h1, h2, LitAt.mono h3 hg⟩
  | 3, h => exact h
  | 4, h => exact h
  | 5, h => exact StrAt.mono h hg
  | 6, h => exact h
  | 7, h => exact h
  | 8, h => exact h
  | 9, h => exact h
theorem lit_acs (j : Nat) (h : j < 4) : ∃ y : Ac, ShAc y ∧ (#[Value.string ⟨#[]⟩, .string ⟨#[]⟩, .int .i64 0, .string ⟨#[65]⟩, .string ⟨#[102]⟩, .int .i64 0, .string ⟨#[122]⟩, .string ⟨#[70]⟩, .int .i64 0, .string ⟨#[122]⟩, .string ⟨#[102]⟩, .int .i64 (-1)] : Array Value)[j * 3]? = some (.string y.name) ∧
    (#[Value.string ⟨#[]⟩, .string ⟨#[]⟩, .int .i64 0, .string ⟨#[65]⟩, .string ⟨#[102]⟩, .int .i64 0, .string ⟨#[122]⟩, .string ⟨#[70]⟩, .int .i64 0, .string ⟨#[122]⟩, .string ⟨#[102]⟩, .int .i64 (-1)] : Array Value)[j * 3 + 1]? = some (.string y.feed) ∧
    (#[Value.string ⟨#[]⟩, .string ⟨#[]⟩, .int .i64 0, .string ⟨#[65]⟩, .string ⟨#[102]⟩, .int .i64 0, .string ⟨#[122]⟩, .string ⟨#[70]⟩, .int .i64 0, .string ⟨#[122]⟩, .string ⟨#[102]⟩, .int .i64 (-1)] : Array Value)[j * 3 + 2]? = some (.int .i64 y.sign) := by
  obtain rfl | rfl | rfl | rfl : j = 0 ∨ j = 1 ∨ j = 2 ∨ j = 3 := by omega
  · exact ⟨⟨⟨#[]⟩, ⟨#[]⟩, 0⟩, ⟨by unfold ShS; decide, by unfold ShS; decide, by unfold ShI; decide⟩, rfl, rfl, rfl⟩
  · exact ⟨⟨⟨#[65]⟩, ⟨#[102]⟩, 0⟩, ⟨by unfold ShS; decide, by unfold ShS; decide, by unfold ShI; decide⟩, rfl, rfl, rfl⟩
  · exact ⟨⟨⟨#[122]⟩, ⟨#[70]⟩, 0⟩, ⟨by unfold ShS; decide, by unfold ShS; decide, by unfold ShI; decide⟩, rfl, rfl, rfl⟩
  · exact ⟨⟨⟨#[122]⟩, ⟨#[102]⟩, -1⟩, ⟨by unfold ShS; decide, by unfold ShS; decide, by unfold ShI; decide⟩, rfl, rfl, rfl⟩
theorem fitAcs_sh {L : List Ac} (h : ∀ x ∈ L, ShAc x) : FitAcs L := fun x m => fitAc_sh (h x m)
theorem adA_sh {L : List Ac} {a : Ac} (h : ∀ x ∈ L, ShAc x) (ha : ShAc a) : ∀ x ∈ (adA L a).1, ShAc x := by
  intro x m
  unfold adA at m
  split at m
  · split at m
    · rcases insG_mem.1 m with q | rfl
      · exact h x q
      · exact ha
    · exact h x m
  · simp at m
def tk3 : List Ac := [⟨⟨#[97, 98, 99, 100, 101, 102, 103, 50]⟩, ⟨#[102, 49]⟩, 0⟩, ⟨⟨#[97, 98, 99, 100, 101, 102, 103, 51]⟩, ⟨#[102, 50]⟩, 0⟩, ⟨⟨#[97, 98, 99, 100, 101, 102, 103, 104]⟩, ⟨#[102, 51]⟩, 0⟩]
theorem tk3_sh : ∀ x ∈ tk3, ShAc x := by
  intro x m
  simp only [tk3, List.mem_cons, List.not_mem_nil, or_false] at m
  rcases m with rfl | rfl | rfl
  all_goals exact ⟨by unfold ShS; decide, by unfold ShS; decide, by unfold ShI; decide⟩
theorem of_tk (v : Int) (h0 : 0 ≤ v) (h1 : v < 3) : ∃ s : ByteArray, s.size ≤ 9 ∧ (#[Value.string ⟨#[97, 98, 99, 100, 101, 102, 103, 104]⟩, Value.string ⟨#[97, 98, 99, 100, 101, 102, 103, 120]⟩, Value.string ⟨#[97, 98, 99, 100, 101, 102, 103, 50]⟩] : Array Value)[v.toNat]? = some (.string s) ∧
    (∀ h : v.toNat < [Value.string ⟨#[97, 98, 99, 100, 101, 102, 103, 104]⟩, Value.string ⟨#[97, 98, 99, 100, 101, 102, 103, 120]⟩, Value.string ⟨#[97, 98, 99, 100, 101, 102, 103, 50]⟩].length, [Value.string ⟨#[97, 98, 99, 100, 101, 102, 103, 104]⟩, Value.string ⟨#[97, 98, 99, 100, 101, 102, 103, 120]⟩, Value.string ⟨#[97, 98, 99, 100, 101, 102, 103, 50]⟩][v.toNat] = .string s) := by
  obtain rfl | rfl | rfl : v = 0 ∨ v = 1 ∨ v = 2 := by omega
  all_goals exact ⟨_, by decide, rfl, fun _ => rfl⟩
end Go.Proofs.Ythniiknhbhoncaa
