/-
  The verifier's own text: ArgE.
-/
import Derived.Test.YtoiglenodiomhaaRows
import Derived.Test.YtoiglenodiomhaaArgG
import Derived.Test.YtoiglenodiomhaaLawE
import Derived.WalkKit
import Derived.ProofKit
import Derived.Below
import Derived.Lib.Hide
import Derived.Outline
import Derived.BigQuiet
import Derived.Deep.QuietTactic
import Derived.Deep.Draws
import Derived.Laws.OwnMore
import Derived.Laws.Rows
import Derived.WalkSpells
import Derived.Deep.RegionWith
namespace Go.Proofs.Ytoiglenodiomhaa
open Go.RowKit
set_option linter.unusedVariables false
theorem elLE {H : Type} {en : TypeId × Value → H} {w : World} {spare : Nat → Bool} {held : Bool} : ∀ m cs' x', DataW.trod en Try.prog w 0 spare held m 57 cs' = some x' → ∃ y : ByteArray × ByteArray, cs' = encE y ∧ (y.1.size ≤ maxLen ∧ y.2.size ≤ maxLen) := by
  intro m cs x h
  obtain ⟨xs, n, _, _, hlen, hxl, hf⟩ := DataW.trod_struct Try.underlying57 h
  have hC : Try.prog.cellsOf 57 = 2 := by kernel_rfl
  have k9 : Try.prog.cellsOf 9 = 1 := by kernel_rfl
  rw [hC] at hlen
  match cs, hlen, xs, hxl with
  | [c0, c1], _, [y0, y1], _ =>
    have h0 : DataW.trod en Try.prog w 0 spare held n 9 [c0] = some y0 := by have := hf 0 _ rfl; simpa [k9] using this
    have h1 : DataW.trod en Try.prog w 0 spare held n 9 [c1] = some y1 := by have := hf 1 _ rfl; simpa [k9] using this
    obtain ⟨s0, e0, _, m0⟩ := DataW.trod_string Try.underlying9 h0
    obtain ⟨s1, e1, _, m1⟩ := DataW.trod_string Try.underlying9 h1
    simp at e0 e1
    exact ⟨(s0, s1), by rw [e0, e1]; rfl, m0, m1⟩
/-- an argument of elements -/
def ArgEL (w : World) (A : Option Addr) (n c : Nat) (L : EL) : Prop := L.length = n ∧ RdG encE w (.slice A n c) L ∧ MaxE L
theorem argE {H : Type} {en : TypeId × Value → H} {w : World} {spare : Nat → Bool} {held : Bool} {fuel : Nat} {A : Option Addr} {n c : Nat} {cs : List Value} {x : DataW H × List MemPlace} (hcs : cs = [.slice A n c]) (h : DataW.trod en Try.prog w 0 spare held fuel 39 cs = some x) :
    ∃ L : EL, ArgEL w A n c L :=
  rd_arg 2 (by decide) Try.underlying39 (by kernel_rfl) encE_len _ elLE hcs h
end Go.Proofs.Ytoiglenodiomhaa
