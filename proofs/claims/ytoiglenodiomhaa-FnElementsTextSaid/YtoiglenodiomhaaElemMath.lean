/-
  The verifier's own text: ElemMath.
-/
import Derived.Test.YtoiglenodiomhaaEscMath
import Derived.WalkKit
import Derived.Lib.Hide
namespace Go.Proofs.Ytoiglenodiomhaa
open Go.RowKit
set_option linter.unusedVariables false
/-- elements: names with texts -/
abbrev EL := List (ByteArray × ByteArray)
def okE (e : ByteArray × ByteArray) : Bool := wordB e.1.data.toList && textB e.2.data.toList
def elB (L : EL) : Bool := decide (L.length ≤ 8) && L.all okE
def elT1 (e : ByteArray × ByteArray) : List UInt8 := 60 :: (e.1.data.toList ++ 62 :: (escT e.2.data.toList ++ 60 :: 47 :: (e.1.data.toList ++ [62])))
def elL (L : EL) : List UInt8 := L.flatMap elT1
def elT (L : EL) : List UInt8 := if elB L then elL L else []
/-- the first text with a name -/
def elX1 : EL → ByteArray → ByteArray × Bool
  | [], _ => (bs [], false)
  | e :: L, n => if e.1 = n then (e.2, true) else elX1 L n
def elX (L : EL) (n : ByteArray) : ByteArray × Bool := if elB L then elX1 L n else (bs [], false)
theorem elB_len {L : EL} (h : elB L = true) : L.length ≤ 8 := by unfold elB at h; simp at h; exact h.1
theorem elB_mem {L : EL} (h : elB L = true) : ∀ e ∈ L, okE e = true := by unfold elB at h; simp at h; exact fun e he => h.2 _ _ he
theorem elB_of {L : EL} (h : L.length ≤ 8) (h' : ∀ e ∈ L, okE e = true) : elB L = true := by unfold elB; simp [h]; exact fun a b m => h' (a, b) m
theorem elB_bad {L : EL} {k : Nat} (h : k < L.length) (b : okE L[k] = false) : elB L = false := by
  unfold elB
  have : L.all okE = false := by rw [List.all_eq_false]; exact ⟨_, List.getElem_mem h, by simp [b]⟩
  rw [this]; simp
theorem take_all {α : Type} {p : α → Bool} {L : List α} {k : Nat} (h : k < L.length) (a : (L.take k).all p = true) (b : p L[k] = true) : (L.take (k + 1)).all p = true := by
  rw [List.take_succ_eq_append_getElem h, List.all_append, a]; simp [b]
theorem elB_end {L : EL} {k : Nat} (h : L.length ≤ k) (a : (L.take k).all okE = true) : decide ((L.length : Int) ≤ 8) = elB L := by
  rw [List.take_of_length_le h] at a
  unfold elB; rw [a]; simp [decide_eq_decide]; omega
theorem okE_word {e : ByteArray × ByteArray} (h : wordB e.1.data.toList = false) : okE e = false := by simp [okE, h]
theorem okE_text {e : ByteArray × ByteArray} (h : textB e.2.data.toList = false) : okE e = false := by simp [okE, h]
theorem okE_both {e : ByteArray × ByteArray} (h : wordB e.1.data.toList = true) (h' : textB e.2.data.toList = true) : okE e = true := by simp [okE, h, h']
theorem okE_of {e : ByteArray × ByteArray} (h : okE e = true) : wordB e.1.data.toList = true ∧ textB e.2.data.toList = true := by simpa [okE] using h
theorem elT_in {L : EL} (h : elB L = true) : elT L = elL L := by simp [elT, h]
theorem elT_out {L : EL} (h : elB L = false) : elT L = [] := by simp [elT, h]
theorem elL_nil : elL [] = [] := rfl
theorem elL_cons (e : ByteArray × ByteArray) (L : EL) : elL (e :: L) = elT1 e ++ elL L := by simp [elL]
theorem elL_append (a b : EL) : elL (a ++ b) = elL a ++ elL b := by simp [elL]
theorem elL_snoc (a : EL) (e : ByteArray × ByteArray) : elL (a ++ [e]) = elL a ++ elT1 e := by simp [elL]
theorem elL_take {L : EL} {k : Nat} (h : k < L.length) : elL (L.take (k + 1)) = elL (L.take k) ++ elT1 L[k] := by rw [List.take_succ_eq_append_getElem h, elL_snoc]
theorem word_len {l : List UInt8} (h : wordB l = true) : 1 ≤ l.length ∧ l.length ≤ 8 := by unfold wordB at h; simp at h; omega
theorem elT1_len {e : ByteArray × ByteArray} (h : okE e = true) : (elT1 e).length ≤ 501 := by
  have := (word_len (okE_of h).1).2
  have := escT_len e.2.data.toList
  simp [elT1] at *; omega
theorem elL_len : ∀ (L : EL), (∀ e ∈ L, okE e = true) → (elL L).length ≤ 501 * L.length := by
  intro L
  induction L with
  | nil => intro _; simp [elL_nil]
  | cons e L ih =>
    intro h
    have h1 := ih (fun x hx => h x (by simp [hx]))
    have h2 := elT1_len (h e (by simp))
    rw [elL_cons, List.length_append, List.length_cons]; omega
theorem elT_len (L : EL) : (elT L).length ≤ 4008 := by
  rcases h : elB L with _ | _
  · rw [elT_out h]; simp
  · rw [elT_in h]; have := elL_len L (elB_mem h); have := elB_len h; omega
theorem elX1_at {L : EL} {n : ByteArray} {k : Nat} (hk : k < L.length) (h : ∀ i (hi : i < L.length), i < k → L[i].1 ≠ n) (e : L[k].1 = n) : elX1 L n = (L[k].2, true) := by
  induction L generalizing k with
  | nil => simp at hk
  | cons a L ih =>
    cases k with
    | zero => simp only [List.getElem_cons_zero] at e ⊢; simp [elX1, e]
    | succ k =>
      have h0 : a.1 ≠ n := h 0 (by simp) (by omega)
      simp only [elX1, h0, if_false]
      have := ih (k := k) (by simpa using hk) (fun i hi hik => by have := h (i + 1) (by simpa using hi) (by omega); simpa using this) (by simpa using e)
      rw [this]; rfl
theorem elX1_none {L : EL} {n : ByteArray} (h : ∀ i (hi : i < L.length), L[i].1 ≠ n) : elX1 L n = (bs [], false) := by
  induction L with
  | nil => rfl
  | cons a L ih =>
    have h0 : a.1 ≠ n := h 0 (by simp)
    simp only [elX1, h0, if_false]
    exact ih (fun i hi => by have := h (i + 1) (by simpa using hi); simpa using this)
theorem elX_in {L : EL} (n : ByteArray) (h : elB L = true) : elX L n = elX1 L n := by simp [elX, h]
theorem elX_out {L : EL} (n : ByteArray) (h : elB L = false) : elX L n = (bs [], false) := by simp [elX, h]
end Go.Proofs.Ytoiglenodiomhaa
