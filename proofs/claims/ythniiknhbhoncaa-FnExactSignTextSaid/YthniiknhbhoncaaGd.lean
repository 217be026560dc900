/-
  The verifier's own text: UnescI UnescS.
-/
import Derived.Test.YthniiknhbhoncaaRows
import Derived.Test.YthniiknhbhoncaaGc
import Derived.Test.YthniiknhbhoncaaGb
import Derived.Test.YthniiknhbhoncaaGa
import Derived.WalkKit
import Derived.ProofKit
import Derived.Below
import Derived.Lib.Hide
import Derived.Outline
import Derived.BigQuiet
import Derived.Deep.QuietTactic
import Derived.Deep.Draws
import Derived.Laws.OwnMore
import Derived.Laws.Rows
import Derived.WalkSpells
import Derived.Deep.RegionWith
namespace Go.Proofs.Ythniiknhbhoncaa
open Go.RowKit
set_option linter.unusedVariables false
theorem ext_drop (s : ByteArray) (k : Nat) : (s.extract k s.size).data.toList = s.data.toList.drop k := by
  have : (s.extract k s.size).data.toList = (s.data.toList.take s.size).drop k := by simp [List.extract_eq_take_drop, List.drop_take]
  rw [this, bfull s s.size (Nat.le_refl _)]
theorem ext_take (s : ByteArray) (k n : Nat) : (s.extract k (k + n)).data.toList = (s.data.toList.drop k).take n := by
  simp [List.extract_eq_take_drop]
theorem hit_ext {s : ByteArray} {k : Nat} {c : UInt8} (h : hitU s.data.toList k c) : s.extract k (k + (bs (nmL c)).size) = bs (nmL c) := by
  apply ByteArray.ext; apply Array.toList_inj.1
  rw [ext_take, bs_size]; exact h.2
theorem hit_no {s : ByteArray} {k : Nat} {d : UInt8} (h : ¬ hitU s.data.toList k d) :
    nmL d = [] ∨ (nmL d ≠ [] ∧ s.size < k + (bs (nmL d)).size) ∨ (nmL d ≠ [] ∧ k + (bs (nmL d)).size ≤ s.size ∧ ¬ s.extract k (k + (bs (nmL d)).size) = bs (nmL d)) := by
  by_cases a : nmL d = []
  · exact .inl a
  · by_cases b : s.size < k + (bs (nmL d)).size
    · exact .inr (.inl ⟨a, b⟩)
    · refine .inr (.inr ⟨a, by omega, fun e => h ⟨a, ?_⟩⟩)
      rw [← ext_take s k (nmL d).length]
      have := congrArg (fun x : ByteArray => x.data.toList) e
      exact this
theorem u8_same (d : UInt8) : IntKind.u8.wrap (d.toNat : Int) = (d.toNat : Int) := by
  have := d.toNat_lt
  simp [IntKind.wrap, IntKind.signed, IntKind.bits]; omega
end Go.Proofs.Ythniiknhbhoncaa
