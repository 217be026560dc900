/-
  The verifier's own text: OwnE.
-/
import Derived.Test.YtoiglenodiomhaaRows
import Derived.Test.YtoiglenodiomhaaRdG
import Derived.Test.YtoiglenodiomhaaElemRead
import Derived.Test.YtoiglenodiomhaaElemS
import Derived.Test.YtoiglenodiomhaaQuiet
import Derived.WalkKit
import Derived.ProofKit
import Derived.Below
import Derived.Lib.Hide
import Derived.Outline
import Derived.BigQuiet
import Derived.Deep.QuietTactic
import Derived.Deep.Draws
import Derived.Laws.OwnMore
import Derived.Laws.Rows
import Derived.WalkSpells
import Derived.Deep.RegionWith
namespace Go.Proofs.Ytoiglenodiomhaa
open Go.RowKit
set_option linter.unusedVariables false
theorem infoE : (Try.prog.info? 27).map (fun i => (i.zero, i.size, i.bytes)) = some (some (.agg #[.string ⟨#[]⟩, .string ⟨#[]⟩]), 2, 32) := by kernel_rfl
theorem encE_one (e : ByteArray × ByteArray) (u : Value) (h : u ∈ encE e) : u.oneCell' = true := by
  simp [encE] at h
  rcases h with rfl | rfl <;> rfl
/-- owned elements -/
def OwnE (w : World) (B : Nat) (v : Value) (L : EL) : Prop := OwnG 27 2 encE w B v L
theorem app_elem {ops : Array Oper} {rest : List Oper} {o : Oper} {a : Act} {Q : Exit → Act → World → Prop} {w : World} (hgd : o.guard = none) (s x : Operand)
    (ho : o.op = .call { callee := .builtin .append, args := #[s, x], argTypes := #[23, 23] }) (W : World) (v : Value) (L : EL) (n t : ByteArray) (hs : a.eval s = v)
    (hown : OwnE w W.heap.size v L) (hb : Below W.heap.size W w) (g : Nat) (hgz : w.heap.size = g) (hx : a.eval x = .slice (some ⟨g, 0, none⟩) 1 1) (hl : L.length ≤ 1073741824)
    (h : ∀ v' w', OwnE w' W.heap.size v' (L ++ [(n, t)]) → Below W.heap.size W w' → wpList Try.prog ops Q rest (a.put o.dst v') w') : wpList Try.prog ops Q (o :: rest) a (w.alloc (.cells #[.string n, .string t] 27)) :=
  app_one (enc := encE) hgd s x 23 ho 27 2 32 _ Try.underlying23 infoE rfl (by decide) (by decide) encE_len encE_one W v L (n, t) hs hown hb g hgz hx hl h
/-- the value behind, as it stands in a slot -/
theorem OwnE.shape {w : World} {B : Nat} {v : Value} {L : EL} (h : OwnE w B v L) : ∃ A c, v = .slice A L.length c := by
  obtain ⟨A, c, hv, _⟩ := OwnG.rd h; exact ⟨A, c, hv⟩
theorem Below.drawn {B : Nat} {a w : World} (h : Below B a w) (n : Nat) : Below B a (w.drewN n) := ⟨h.os, h.tape, h.output, h.size, h.block⟩
/-- elements and whether there are any, in memory of the call's own -/
def GotEL (s : List UInt8) (w : World) (e : Ending) (w' : World) : Prop := ∃ (v : Value) (L : EL) (ok : Bool), e = .returned (.tuple #[v, .bool ok]) ∧ RdE s L ok ∧ OwnE w' w.heap.size v L ∧ Below w.heap.size w w'
theorem own_empty (w W : World) (h : W.heap.size ≤ w.heap.size) : OwnE (w.alloc (.cells #[] 27)) W.heap.size (.slice (some ⟨w.heap.size, 0, none⟩) 0 0) [] := by
  have := World.ownsRow_lit (e := 27) (size := 2) (base := W.heap.size) w #[] 0 h (by simp) rfl
  exact this
theorem fitE_of {L : EL} (h : elB L = true) : FitE L := by
  intro e m
  have := okE_of (elB_mem h e m)
  have h1 := (word_len this.1).2
  have h2 := textB_len this.2
  rw [blen] at h1 h2
  omega
end Go.Proofs.Ytoiglenodiomhaa
