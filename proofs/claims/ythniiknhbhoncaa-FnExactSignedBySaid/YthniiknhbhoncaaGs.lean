/-
  The verifier's own text: DItem DItem2.
-/
import Derived.Test.YthniiknhbhoncaaRows
import Derived.Test.YthniiknhbhoncaaGn
import Derived.Test.YthniiknhbhoncaaGo
import Derived.Test.YthniiknhbhoncaaGh
import Derived.WalkKit
import Derived.ProofKit
import Derived.Below
import Derived.Lib.Hide
import Derived.Outline
import Derived.BigQuiet
import Derived.Deep.QuietTactic
import Derived.Deep.Draws
import Derived.Laws.OwnMore
import Derived.Laws.Rows
import Derived.WalkSpells
import Derived.Deep.RegionWith
namespace Go.Proofs.Ythniiknhbhoncaa
open Go.RowKit
set_option linter.unusedVariables false
/-- a row of literals, in a block of its own -/
def LitAt (B g n : Nat) (cs : Array Value) (v : Value) (w : World) : Prop := ∃ b, v = .slice (some ⟨b, 0, none⟩) n n ∧ B ≤ b ∧ b ≠ g ∧ b < w.heap.size ∧ ∀ j : Nat, w.cell? ⟨b, j, none⟩ = cs[j]?
def StrAt (g n : Nat) (v : Value) (w : World) : Prop := ∃ (b j : Nat) (s : ByteArray), v = .pointer (some ⟨b, j, none⟩) ∧ b ≠ g ∧ b < w.heap.size ∧ w.cell? ⟨b, j, none⟩ = some (.string s) ∧ s.size ≤ n
def StrIs (n : Nat) (v : Value) : Prop := ∃ s : ByteArray, v = .string s ∧ s.size ≤ n
def IntUp (k : Int) (v : Value) : Prop := ∃ z : Int, v = .int .i64 z ∧ 0 ≤ z ∧ z < k
/-- a variable of its own -/
def VarAt (B g n : Nat) (t : TypeId) (v : Value) (w : World) : Prop := ∃ (b : Nat) (cs : Array Value), v = .pointer (some ⟨b, 0, none⟩) ∧ B ≤ b ∧ b ≠ g ∧ cs.size = n ∧ w.heap[b]? = some (.cells cs t (0, 0))
theorem row_kept {w w' : World} {g b j : Nat} (h : w.grownBy w' (some g)) (hb : b ≠ g) (hlt : b < w.heap.size) : w'.cell? ⟨b, j, none⟩ = w.cell? ⟨b, j, none⟩ := kept_cell h b j hb hlt
theorem LitAt.mono {B g n : Nat} {cs : Array Value} {v : Value} {w w' : World} (h : LitAt B g n cs v w) (hg : w.grownBy w' (some g)) : LitAt B g n cs v w' := by
  obtain ⟨b, rfl, h1, h2, h3, h4⟩ := h
  exact ⟨b, rfl, h1, h2, Nat.lt_of_lt_of_le h3 hg.size, fun j => by rw [row_kept hg h2 h3]; exact h4 j⟩
theorem StrAt.mono {g n : Nat} {v : Value} {w w' : World} (h : StrAt g n v w) (hg : w.grownBy w' (some g)) : StrAt g n v w' := by
  obtain ⟨b, j, s, rfl, h2, h3, h4, h5⟩ := h
  exact ⟨b, j, s, rfl, h2, Nat.lt_of_lt_of_le h3 hg.size, by rw [row_kept hg h2 h3]; exact h4, h5⟩
theorem VarAt.mono {B g n : Nat} {t : TypeId} {v : Value} {w w' : World} (h : VarAt B g n t v w) (hg : w.grownBy w' (some g)) : VarAt B g n t v w' := by
  obtain ⟨b, cs, rfl, h1, h2, h3, h4⟩ := h
  exact ⟨b, cs, rfl, h1, h2, h3, by rw [hg.block b (Array.getElem?_eq_some_iff.1 h4).1 (by intro e; injection e; omega)]; exact h4⟩
theorem LitAt.new {B g n : Nat} {cs : Array Value} {t : TypeId} {w : World} (hB : B ≤ w.heap.size) (hg : g < w.heap.size) : LitAt B g n cs (.slice (some ⟨w.heap.size, 0, none⟩) n n) (w.alloc (.cells cs t)) :=
  ⟨_, rfl, hB, by omega, by simp, fun j => World.cell?_alloc_new w cs t j⟩
theorem VarAt.new {B g n : Nat} {cs : Array Value} {t : TypeId} {w : World} (hB : B ≤ w.heap.size) (hg : g < w.heap.size) (hn : cs.size = n) : VarAt B g n t (.pointer (some ⟨w.heap.size, 0, none⟩)) (w.alloc (.cells cs t)) :=
  ⟨_, cs, rfl, hB, by omega, hn, heap_alloc_new w _⟩
/-- the strings of a literal row are short -/
def ShortRow (n : Nat) (cs : Array Value) : Prop := ∀ j (h : j < cs.size), ∃ s : ByteArray, cs[j] = .string s ∧ s.size ≤ n
/-- an element of a literal row -/
theorem LitAt.at {B g n k : Nat} {cs : Array Value} {v : Value} {w : World} (h : LitAt B g n cs v w) (hs : ShortRow k cs) (hn : cs.size = n) {z : Int} (h0 : 0 ≤ z) (h1 : z < n) : ∃ b, v = .slice (some ⟨b, 0, none⟩) n n ∧ StrAt g k (.pointer (some ⟨b, z.toNat, none⟩)) w := by
  obtain ⟨b, rfl, _, h2, h3, h4⟩ := h
  obtain ⟨s, e, hl⟩ := hs z.toNat (by omega)
  exact ⟨b, rfl, b, z.toNat, s, rfl, h2, h3, by rw [h4, Array.getElem?_eq_getElem (by omega), e], hl⟩
def lit5 : Array Value := #[.string ⟨#[107, 49]⟩, .string ⟨#[107, 50]⟩, .string ⟨#[107, 51]⟩, .string ⟨#[107, 52]⟩, .string ⟨#[107, 53]⟩]
def lit3 : Array Value := #[.string ⟨#[78, 101, 119, 115]⟩, .string ⟨#[65, 32, 38, 32, 66]⟩, .string ⟨#[116]⟩]
theorem lit5_short : ShortRow 5 lit5 := by
  intro j h
  have h' : j < 5 := h
  obtain rfl | rfl | rfl | rfl | rfl : j = 0 ∨ j = 1 ∨ j = 2 ∨ j = 3 ∨ j = 4 := by omega
  all_goals exact ⟨_, rfl, by decide⟩
theorem lit3_short : ShortRow 5 lit3 := by
  intro j h
  have h' : j < 3 := h
  obtain rfl | rfl | rfl : j = 0 ∨ j = 1 ∨ j = 2 := by omega
  all_goals exact ⟨_, rfl, by decide⟩
theorem arr4 {cs : Array Value} (h : cs.size = 4) : ∃ a b c d, cs = #[a, b, c, d] := by
  obtain ⟨l⟩ := cs
  match l, h with
  | [a, b, c, d], _ => exact ⟨a, b, c, d, rfl⟩
def ShortI (i : It) : Prop := i.key.size ≤ 81 ∧ i.title.size ≤ 81 ∧ i.body.size ≤ 81
/-- an item, and the reader -/
def DrewI (W w : World) (g m : Nat) (e : Ending) (w' : World) : Prop := ∃ (k t b : ByteArray) (d : Int), e = .returned (.agg #[.string k, .string t, .string b, .int .i64 d]) ∧ ShortI ⟨k, t, b, d⟩ ∧ Rd W w' g m ∧ w.grownBy w' (some g)
def DrawnI (w : World) (e : Ending) (w' : World) : Prop := ∃ (k t b : ByteArray) (d : Int), e = .returned (.agg #[.string k, .string t, .string b, .int .i64 d]) ∧ ShortI ⟨k, t, b, d⟩ ∧ Below w.heap.size w w'
end Go.Proofs.Ythniiknhbhoncaa
