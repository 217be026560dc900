/-
  The verifier's own text: Plain.
-/
import Derived.WalkKit
import Derived.Lib.Hide
namespace Go.Proofs.Ytoiglenodiomhaa
open Go.RowKit
set_option linter.unusedVariables false
/-- a text out of its bytes (closed to the walk) -/
def bs (l : List UInt8) : ByteArray := ⟨l.toArray⟩
theorem bs_append (a b : List UInt8) : bs a ++ bs b = bs (a ++ b) := by
  apply ByteArray.ext; simp [bs]
theorem bs_list (s : ByteArray) : bs s.data.toList = s := rfl
theorem bs_data (l : List UInt8) : (bs l).data.toList = l := rfl
theorem bs_size (l : List UInt8) : (bs l).size = l.length := rfl
theorem str_same {a b : ByteArray} (h : a = b) : (a.toList == b.toList) = true := by rw [h]; simp
theorem str_other {a b : ByteArray} (h : ¬ a = b) : (a.toList == b.toList) = false := by
  rw [beq_eq_false_iff_ne, ByteArray.toList_eq, ByteArray.toList_eq]
  exact fun e => h (ByteArray.ext (Array.toList_inj.1 e))
theorem str_nil {s : ByteArray} (h : s.size = 0) : s.toList = [] := by
  rw [ByteArray.toList_eq]; exact List.length_eq_zero_iff.1 (by simpa using h)
theorem str_ne {s : ByteArray} (h : s.size ≠ 0) : ¬ s.toList = [] := by
  rw [ByteArray.toList_eq]; intro e
  have := congrArg List.length e; simp only [List.length_nil, Array.length_toList] at this; exact h this
theorem str_full {s : ByteArray} (h : s.size ≠ 0) : s.toList.isEmpty = false := by
  rw [List.isEmpty_eq_false_iff]; exact str_ne h
theorem bs_inj {a b : List UInt8} (h : bs a = bs b) : a = b := by rw [← bs_data a, h, bs_data]
def digI (n : Int) : Bool := decide (48 ≤ n ∧ n ≤ 57)
def smlI (n : Int) : Bool := decide (97 ≤ n ∧ n ≤ 122)
def inB (n lo hi : Int) : Bool := decide (lo ≤ n ∧ n ≤ hi)
theorem inB_true {n lo hi : Int} (h : lo ≤ n) (h' : n ≤ hi) : inB n lo hi = true := by simp [inB, h, h']
theorem inB_lo {n lo hi : Int} (h : n < lo) : inB n lo hi = false := by simp [inB]; omega
theorem inB_hi {n lo hi : Int} (h : hi < n) : inB n lo hi = false := by simp [inB]; omega
/-- a byte of a word -/
def wcB (c : UInt8) : Bool := digI c.toNat || smlI c.toNat
def wordB (l : List UInt8) : Bool := decide (1 ≤ l.length ∧ l.length ≤ 8) && !(digI (l.headD 0).toNat) && l.all wcB
theorem blen (s : ByteArray) : s.data.toList.length = s.size := by simp
theorem bget (s : ByteArray) (k : Nat) (h : k < s.size) : s.data.toList[k]'(by simpa using h) = s[k] := rfl
theorem btake (s : ByteArray) (k : Nat) (h : k < s.size) : s.data.toList.take (k + 1) = s.data.toList.take k ++ [s[k]] := by
  rw [List.take_succ_eq_append_getElem (by simpa using h)]; rfl
theorem bfull (s : ByteArray) (k : Nat) (h : s.size ≤ k) : s.data.toList.take k = s.data.toList := List.take_of_length_le (by simpa using h)
theorem bmem (s : ByteArray) (k : Nat) (h : k < s.size) : s[k] ∈ s.data.toList := by rw [← bget s k h]; exact List.getElem_mem _
theorem hd0 (l : List UInt8) (h : 0 < l.length) : l.headD 0 = l[0] := by
  cases l with
  | nil => simp at h
  | cons a l => rfl
theorem bhead (s : ByteArray) (h : 0 < s.size) : s.data.toList.headD 0 = s[0] := hd0 _ (by simpa using h)
theorem all_snoc {s : ByteArray} {p : UInt8 → Bool} {k : Nat} (h : k < s.size) (a : (s.data.toList.take k).all p = true) (b : p s[k] = true) : (s.data.toList.take (k + 1)).all p = true := by
  rw [btake s k h, List.all_append, a]; simp [b]
theorem all_bad {s : ByteArray} {p : UInt8 → Bool} {k : Nat} (h : k < s.size) (b : p s[k] = false) : s.data.toList.all p = false := by
  rw [List.all_eq_false]; exact ⟨_, bmem s k h, by simp [b]⟩
theorem word_short {s : ByteArray} (h : s.size < 1 ∨ 8 < s.size) : wordB s.data.toList = false := by
  unfold wordB; rw [blen]
  have : decide (1 ≤ s.size ∧ s.size ≤ 8) = false := by simp; omega
  rw [this]; rfl
theorem word_dig {s : ByteArray} (h : 0 < s.size) (d : digI (s[0].toNat : Int) = true) : wordB s.data.toList = false := by
  unfold wordB; rw [bhead s h, d]; simp
theorem word_bad {s : ByteArray} {k : Nat} (h : k < s.size) (b : wcB s[k] = false) : wordB s.data.toList = false := by
  unfold wordB; rw [all_bad h b]; simp
theorem word_ok {s : ByteArray} (h1 : 1 ≤ s.size) (h2 : s.size ≤ 8) (d : digI (s[0].toNat : Int) = false) (a : s.data.toList.all wcB = true) : wordB s.data.toList = true := by
  unfold wordB; rw [blen, bhead s h1, d, a]; simp; omega
theorem wc_dig {c : UInt8} (h : digI c.toNat = true) : wcB c = true := by simp [wcB, h]
theorem wc_sml {c : UInt8} (h : smlI c.toNat = true) : wcB c = true := by simp [wcB, h]
theorem wc_no {c : UInt8} (h : digI c.toNat = false) (h' : smlI c.toNat = false) : wcB c = false := by simp [wcB, h, h']
/-- the first k bytes could begin a word -/
def PreW (l : List UInt8) (k : Nat) : Prop := (l.take k).all wcB = true ∧ (k = 0 ∨ digI (l.headD 0).toNat = false)
theorem preW_zero (l : List UInt8) : PreW l 0 := ⟨rfl, .inl rfl⟩
theorem preW_sml {s : ByteArray} {k : Nat} (h : k < s.size) (p : PreW s.data.toList k) (a : 97 ≤ (s[k].toNat : Int)) (b : (s[k].toNat : Int) ≤ 122) : PreW s.data.toList (k + 1) := by
  refine ⟨all_snoc h p.1 (wc_sml (by simp [smlI, a, b])), ?_⟩
  rcases p.2 with e | e
  · subst e
    right; rw [bhead s h]; simp [digI]; omega
  · exact .inr e
theorem preW_dig {s : ByteArray} {k : Nat} (h : k < s.size) (h0 : 0 < k) (p : PreW s.data.toList k) (a : 48 ≤ (s[k].toNat : Int)) (b : (s[k].toNat : Int) ≤ 57) : PreW s.data.toList (k + 1) := by
  refine ⟨all_snoc h p.1 (wc_dig (by simp [digI, a, b])), ?_⟩
  rcases p.2 with e | e
  · omega
  · exact .inr e
theorem word_bad0 {s : ByteArray} (h : 0 < s.size) (a : (s[0].toNat : Int) < 97 ∨ 122 < (s[0].toNat : Int)) : wordB s.data.toList = false := by
  rcases hx : digI (s[0].toNat : Int) with _ | _
  · exact word_bad h (wc_no hx (by simp [smlI]; omega))
  · exact word_dig h hx
theorem word_badk {s : ByteArray} {k : Nat} (h : k < s.size) (a : (s[k].toNat : Int) < 97 ∨ 122 < (s[k].toNat : Int)) (b : (s[k].toNat : Int) < 48 ∨ 57 < (s[k].toNat : Int)) : wordB s.data.toList = false :=
  word_bad h (wc_no (by simp [digI]; omega) (by simp [smlI]; omega))
theorem word_pre {s : ByteArray} {k : Nat} (h : s.size ≤ k) (hk : k ≤ s.size) (p : PreW s.data.toList k) : inB s.size 1 8 = wordB s.data.toList := by
  by_cases hz : s.size < 1 ∨ 8 < s.size
  · rw [word_short hz]; simp [inB]; omega
  · obtain ⟨a, b⟩ := p
    rw [bfull s k h] at a
    have hd : digI (s[0]'(by omega)).toNat = false := by
      rcases b with b | b
      · omega
      · rw [← bhead s (by omega)]; exact b
    rw [word_ok (by omega) (by omega) hd a]; simp [inB]; omega
theorem ret_bool {a b : Bool} (h : a = b) : Ending.returned (.bool a) = .returned (.bool b) := by rw [h]
theorem ret_int {k : IntKind} {a b : Int} (h : a = b) : Ending.returned (.int k a) = .returned (.int k b) := by rw [h]
theorem ret_str {a b : List UInt8} (h : a = b) : Ending.returned (.string (bs a)) = .returned (.string (bs b)) := by rw [h]
theorem digI_true {n : Int} (h : 48 ≤ n) (h' : n ≤ 57) : digI n = true := by simp [digI, h, h']
theorem smlI_true {n : Int} (h : 97 ≤ n) (h' : n ≤ 122) : smlI n = true := by simp [smlI, h, h']
theorem digI_no {n : Int} (h : n < 48 ∨ 57 < n) : digI n = false := by simp [digI]; omega
theorem smlI_no {n : Int} (h : n < 97 ∨ 122 < n) : smlI n = false := by simp [smlI]; omega
theorem digI_bd {n : Int} (h : digI n = true) : 48 ≤ n ∧ n ≤ 57 := by simpa [digI] using h
theorem smlI_bd {n : Int} (h : smlI n = true) : 97 ≤ n ∧ n ≤ 122 := by simpa [smlI] using h
end Go.Proofs.Ytoiglenodiomhaa
