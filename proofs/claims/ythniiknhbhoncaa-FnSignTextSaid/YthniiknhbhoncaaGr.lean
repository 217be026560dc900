/-
  The verifier's own text: LawF LawF3.
-/
import Derived.Test.YthniiknhbhoncaaRows
import Derived.Test.YthniiknhbhoncaaGq
import Derived.Test.YthniiknhbhoncaaGo
import Derived.Test.YthniiknhbhoncaaGb
import Derived.Deep.RegionHeld3
import Derived.Test.YthniiknhbhoncaaGa
import Derived.WalkKit
import Derived.ProofKit
import Derived.Below
import Derived.Lib.Hide
import Derived.Outline
import Derived.BigQuiet
import Derived.Deep.QuietTactic
import Derived.Deep.Draws
import Derived.Laws.OwnMore
import Derived.Laws.Rows
import Derived.WalkSpells
import Derived.Deep.RegionWith
namespace Go.Proofs.Ythniiknhbhoncaa
open Go.RowKit
set_option linter.unusedVariables false
def Sz1F (i : It) : Prop := Sz1I i.key i.title i.body
def SzF (L : List It) : Prop := L.length ≤ 1048576 ∧ ∀ e ∈ L, Sz1F e
def MaxF (L : List It) : Prop := ∀ e ∈ L, e.key.size ≤ maxLen ∧ e.title.size ≤ maxLen ∧ e.body.size ≤ maxLen
theorem fit_szF {L : List It} (h : SzF L) : FitF L := fun e m => by
  obtain ⟨a, b, c⟩ := h.2 e m
  exact ⟨by omega, by omega, by omega⟩
theorem encI_one (i : It) (u : Value) (h : u ∈ encI i) : u.oneCell' = true := by
  simp [encI] at h
  rcases h with rfl | rfl | rfl | rfl <;> rfl
theorem made_four (a b c d : Value) (n : Nat) : (madeCells #[a, b, c, d] (n * 4)).toList = (List.replicate n [a, b, c, d]).flatten := by
  induction n with
  | zero => simp [madeCells]
  | succ n ih =>
    rw [List.replicate_succ', List.flatten_append, ← ih]
    unfold madeCells
    rw [Nat.succ_mul, Array.range_succ, Array.range_succ, Array.range_succ, Array.range_succ]
    have e1 : (n * 4 + 1) % 4 = 1 := by omega
    have e2 : (n * 4 + 2) % 4 = 2 := by omega
    have e3 : (n * 4 + 3) % 4 = 3 := by omega
    simp [e1, e2, e3]
theorem keep8 {W w2 w3 : World} {b b' i i' : Nat} {x0 x1 x2 x3 y0 y1 y2 y3 : Value} (hb : b < W.heap.size) (hb' : b' < W.heap.size) (h : Below w2.heap.size w2 w3)
    (a0 : w2.cell? ⟨b, i, none⟩ = some x0) (a1 : w2.cell? ⟨b, i + 1, none⟩ = some x1) (a2 : w2.cell? ⟨b, i + 2, none⟩ = some x2) (a3 : w2.cell? ⟨b, i + 3, none⟩ = some x3)
    (c0 : w2.cell? ⟨b', i', none⟩ = some y0) (c1 : w2.cell? ⟨b', i' + 1, none⟩ = some y1) (c2 : w2.cell? ⟨b', i' + 2, none⟩ = some y2) (c3 : w2.cell? ⟨b', i' + 3, none⟩ = some y3) (h4 : Hid (Below W.heap.size W w2)) :
    w3.cell? ⟨b, i, none⟩ = some x0 ∧ w3.cell? ⟨b, i + 1, none⟩ = some x1 ∧ w3.cell? ⟨b, i + 2, none⟩ = some x2 ∧ w3.cell? ⟨b, i + 3, none⟩ = some x3 ∧
    w3.cell? ⟨b', i', none⟩ = some y0 ∧ w3.cell? ⟨b', i' + 1, none⟩ = some y1 ∧ w3.cell? ⟨b', i' + 2, none⟩ = some y2 ∧ w3.cell? ⟨b', i' + 3, none⟩ = some y3 ∧ Hid (Below W.heap.size W w3) := by
  have hs := h4.out.size
  have q : ∀ (g k : Nat) (u : Value), g < W.heap.size → w2.cell? ⟨g, k, none⟩ = some u → w3.cell? ⟨g, k, none⟩ = some u := fun g k u hg e => by rw [h.cell (p := ⟨g, k, none⟩) (Nat.lt_of_lt_of_le hg hs)]; exact e
  exact ⟨q _ _ _ hb a0, q _ _ _ hb a1, q _ _ _ hb a2, q _ _ _ hb a3, q _ _ _ hb' c0, q _ _ _ hb' c1, q _ _ _ hb' c2, q _ _ _ hb' c3, Lib.hid (below_trans' h4.out h)⟩
end Go.Proofs.Ythniiknhbhoncaa
