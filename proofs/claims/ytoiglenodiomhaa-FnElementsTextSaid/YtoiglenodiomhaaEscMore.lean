/-
  The verifier's own text: EscMore.
-/
import Derived.Test.YtoiglenodiomhaaEscMath
import Derived.Test.YtoiglenodiomhaaPlainMath
import Derived.WalkKit
import Derived.Lib.Hide
namespace Go.Proofs.Ytoiglenodiomhaa
open Go.RowKit
set_option linter.unusedVariables false
theorem ext1 (s : ByteArray) (k : Nat) (h : k < s.size) : s.extract k (k + 1) = bs [s[k]] := by
  apply ByteArray.ext; apply Array.toList_inj.1
  have : (s.extract k (k + 1)).data.toList = (s.data.toList.take (k + 1)).drop k := by
    simp [List.extract_eq_take_drop, List.drop_take]
  rw [this, btake s k h]; 
  have hl : (s.data.toList.take k).length = k := by rw [List.length_take, blen]; omega
  rw [List.drop_left' hl]; rfl
theorem esc_next {s : ByteArray} {k : Nat} (h : k < s.size) : escL (s.data.toList.take (k + 1)) = escL (s.data.toList.take k) ++ escB s[k] := by rw [btake s k h, escL_snoc]
theorem esc_short {s : ByteArray} (k : Nat) (h : s.size ≤ 80) : (escL (s.data.toList.take k)).length ≤ 480 := by
  have h1 := (escL_len (s.data.toList.take k)).2
  have h2 : (s.data.toList.take k).length ≤ 80 := by rw [List.length_take, blen]; omega
  omega
theorem text_80 {s : ByteArray} (h : textB s.data.toList = true) : s.size ≤ 80 := by rw [← blen]; exact textB_len h
theorem pl_len80 {s : ByteArray} (k : Nat) (h : s.size ≤ 80) : (plF (s.data.toList.take k)).2.length ≤ 80 := by
  have h1 := plF_len (s.data.toList.take k)
  have h2 : (s.data.toList.take k).length ≤ 80 := by rw [List.length_take, blen]; omega
  omega
theorem byte_ne {c : UInt8} {d : Nat} (hd : d < 256) (h : c ≠ UInt8.ofNat d) : ((c.toNat : Int) == (d : Int)) = false := by
  rw [beq_eq_false_iff_ne]; intro e; apply h; apply UInt8.toNat_inj.1
  rw [UInt8.toNat_ofNat']; omega
end Go.Proofs.Ytoiglenodiomhaa
