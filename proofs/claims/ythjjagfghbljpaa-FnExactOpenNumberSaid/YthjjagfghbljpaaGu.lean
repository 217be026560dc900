/-
  The verifier's own text: LawS ArgF ArgS.
-/
import Derived.Test.YthjjagfghbljpaaRows
import Derived.Test.YthjjagfghbljpaaGt
import Derived.Test.YthjjagfghbljpaaGb
import Derived.Test.YthjjagfghbljpaaGr
import Derived.WalkKit
import Derived.ProofKit
import Derived.Below
import Derived.Lib.Hide
import Derived.Outline
import Derived.BigQuiet
import Derived.Deep.QuietTactic
import Derived.Deep.Draws
import Derived.Laws.OwnMore
import Derived.Laws.Rows
import Derived.WalkSpells
import Derived.Deep.RegionWith
namespace Go.Proofs.Ythjjagfghbljpaa
open Go.RowKit
set_option linter.unusedVariables false
def SzS (L : List ByteArray) : Prop := L.length ≤ 1048576 ∧ ∀ s ∈ L, s.size ≤ 1048576
def MaxS (L : List ByteArray) : Prop := ∀ s ∈ L, s.size ≤ maxLen
theorem fit_szS {L : List ByteArray} (h : SzS L) : FitS L := fun s m => by have := h.2 s m; omega
theorem rdS_at {w wr : World} {b o : Nat} {L : List ByteArray} (h : ∀ k (hk : k < L.length), w.cell? ⟨b, o + k, none⟩ = some (.string L[k])) (hb : b < w.heap.size) (hB : Below w.heap.size w wr) {k : Nat} (hk : k < L.length) : wr.cell? ⟨b, o + k, none⟩ = some (.string L[k]) := by
  rw [hB.cell (p := ⟨b, o + k, none⟩) hb]; exact h k hk
theorem made_one (a : Value) (n : Nat) : (madeCells #[a] (n * 1)).toList = (List.replicate n [a]).flatten := by
  induction n with
  | zero => simp [madeCells]
  | succ n ih =>
    rw [List.replicate_succ', List.flatten_append, ← ih]
    unfold madeCells
    rw [Nat.succ_mul, Array.range_succ]
    simp [Nat.mod_one]
def GotOwnS (L : List ByteArray) (w : World) (e : Ending) (w' : World) : Prop := ∃ v : Value, e = .returned v ∧ OwnS w' w.heap.size v L ∧ Below w.heap.size w w'
/-- an argument of items -/
def ArgFL (w : World) (A : Option Addr) (n c : Nat) (L : List It) : Prop := L.length = n ∧ RdG encI w (.slice A n c) L ∧ MaxF L
theorem elLS {H : Type} {en : TypeId × Value → H} {w : World} {spare : Nat → Bool} {held : Bool} : ∀ m cs' x', DataW.trod en Try.prog w 0 spare held m 9 cs' = some x' → ∃ y : ByteArray, cs' = encS y ∧ y.size ≤ maxLen := by
  intro m cs x h
  obtain ⟨s0, e0, _, m0⟩ := DataW.trod_string Try.underlying9 h
  exact ⟨s0, by rw [e0]; rfl, m0⟩
/-- an argument of texts -/
def ArgSL (w : World) (A : Option Addr) (n c : Nat) (L : List ByteArray) : Prop := L.length = n ∧ RdG encS w (.slice A n c) L ∧ MaxS L
end Go.Proofs.Ythjjagfghbljpaa
