/-
  The verifier's own text: TextMath.
-/
import Derived.Test.YtoiglenodiomhaaPlain
import Derived.WalkKit
import Derived.Lib.Hide
namespace Go.Proofs.Ytoiglenodiomhaa
open Go.RowKit
set_option linter.unusedVariables false
def tcB (c : UInt8) : Bool := decide (32 ≤ (c.toNat : Int) ∧ (c.toNat : Int) ≤ 126)
def textB (l : List UInt8) : Bool := decide (l.length ≤ 80) && l.all tcB
def PreT (l : List UInt8) (k : Nat) : Prop := (l.take k).all tcB = true
theorem text_long {s : ByteArray} (h : 80 < s.size) : textB s.data.toList = false := by
  unfold textB; rw [blen]
  have : decide (s.size ≤ 80) = false := by simp; omega
  rw [this]; rfl
theorem tc_bad {c : UInt8} (h : (c.toNat : Int) < 32 ∨ 126 < (c.toNat : Int)) : tcB c = false := by simp [tcB]; omega
theorem text_bad {s : ByteArray} {k : Nat} (h : k < s.size) (a : (s[k].toNat : Int) < 32 ∨ 126 < (s[k].toNat : Int)) : textB s.data.toList = false := by
  unfold textB; rw [all_bad h (tc_bad a)]; simp
theorem preT_next {s : ByteArray} {k : Nat} (h : k < s.size) (p : PreT s.data.toList k) (a : 32 ≤ (s[k].toNat : Int)) (b : (s[k].toNat : Int) ≤ 126) : PreT s.data.toList (k + 1) :=
  all_snoc h p (by simp [tcB]; omega)
theorem text_pre {s : ByteArray} {k : Nat} (h : s.size ≤ k) (p : PreT s.data.toList k) : decide ((s.size : Int) ≤ 80) = textB s.data.toList := by
  unfold PreT at p
  rw [bfull s k h] at p
  unfold textB; rw [p, blen]; simp [decide_eq_decide]; omega
end Go.Proofs.Ytoiglenodiomhaa
