/-
  The verifier's own text: PlainMath.
-/
import Derived.Test.YtoiglenodiomhaaTextMath
import Derived.WalkKit
import Derived.Lib.Hide
namespace Go.Proofs.Ytoiglenodiomhaa
open Go.RowKit
set_option linter.unusedVariables false
/-- inside of angle brackets, and what stood outside, byte by byte -/
def plS (p : Bool × List UInt8) (c : UInt8) : Bool × List UInt8 :=
  if c = 60 then (true, p.2) else if p.1 then (decide (c ≠ 62), p.2) else (false, p.2 ++ [c])
def plF (l : List UInt8) : Bool × List UInt8 := l.foldl plS (false, [])
def plT (l : List UInt8) : List UInt8 := if textB l then (plF l).2 else []
theorem plF_snoc (l : List UInt8) (c : UInt8) : plF (l ++ [c]) = plS (plF l) c := by simp [plF]
theorem plF_take {s : ByteArray} {k : Nat} (h : k < s.size) : plF (s.data.toList.take (k + 1)) = plS (plF (s.data.toList.take k)) s[k] := by rw [btake s k h, plF_snoc]
theorem plT_in {l : List UInt8} (h : textB l = true) : plT l = (plF l).2 := by simp [plT, h]
theorem plT_out {l : List UInt8} (h : textB l = false) : plT l = [] := by simp [plT, h]
theorem plS_open (p : Bool × List UInt8) : plS p 60 = (true, p.2) := rfl
theorem plS_shut {p : Bool × List UInt8} (h : p.1 = true) : plS p 62 = (false, p.2) := by simp [plS, h]
theorem plS_in {p : Bool × List UInt8} {c : UInt8} (h : p.1 = true) (a : c ≠ 60) (b : c ≠ 62) : plS p c = (true, p.2) := by simp [plS, h, a, b]
theorem plS_out {p : Bool × List UInt8} {c : UInt8} (h : p.1 = false) (a : c ≠ 60) : plS p c = (false, p.2 ++ [c]) := by simp [plS, h, a]
theorem plG (l : List UInt8) : ∀ (p : Bool × List UInt8), (l.foldl plS p).2.length ≤ p.2.length + l.length ∧ ∀ x ∈ (l.foldl plS p).2, x ∈ p.2 ∨ (x ∈ l ∧ x ≠ 60) := by
  induction l with
  | nil => intro p; simp
  | cons c l ih =>
    intro p
    have := ih (plS p c)
    have hp : (plS p c).2 = p.2 ∨ ((plS p c).2 = p.2 ++ [c] ∧ c ≠ 60) := by
      unfold plS
      by_cases a : c = 60
      · rw [if_pos a]; exact .inl rfl
      · rw [if_neg a]
        cases p.1
        · exact .inr ⟨rfl, a⟩
        · exact .inl rfl
    simp only [List.foldl_cons, List.length_cons]
    rcases hp with hp | ⟨hp, hc⟩
    · rw [hp] at this
      refine ⟨by omega, fun x hx => ?_⟩
      rcases this.2 x hx with h | h
      · exact .inl h
      · exact .inr ⟨by simp [h.1], h.2⟩
    · rw [hp] at this
      refine ⟨by have := this.1; simp at this; omega, fun x hx => ?_⟩
      rcases this.2 x hx with h | h
      · rcases List.mem_append.1 h with h | h
        · exact .inl h
        · have : x = c := by simpa using h
          subst this; exact .inr ⟨by simp, hc⟩
      · exact .inr ⟨by simp [h.1], h.2⟩
theorem plF_len (l : List UInt8) : (plF l).2.length ≤ l.length := by have := (plG l (false, [])).1; simpa [plF] using this
theorem plF_mem (l : List UInt8) (x : UInt8) (h : x ∈ (plF l).2) : x ∈ l ∧ x ≠ 60 := by
  have := (plG l (false, [])).2 x h; simpa using this
theorem plT_len (l : List UInt8) : (plT l).length ≤ l.length := by
  unfold plT
  rcases textB l with _ | _
  · simp
  · exact plF_len l
theorem plT_80 (l : List UInt8) : (plT l).length ≤ 80 := by
  unfold plT
  rcases h : textB l with _ | _
  · simp
  · simp only [if_true]
    have h1 : l.length ≤ 80 := by unfold textB at h; simp at h; exact h.1
    have := plF_len l; omega
theorem plT_no (l : List UInt8) (x : UInt8) (h : x ∈ plT l) : x ≠ 60 := by
  unfold plT at h
  rcases ht : textB l with _ | _
  · rw [ht] at h; simp at h
  · rw [ht] at h; exact (plF_mem l x h).2
theorem textB_mem {l : List UInt8} (h : textB l = true) : l.length ≤ 80 ∧ ∀ x ∈ l, tcB x = true := by
  unfold textB at h; simpa using h
theorem textB_of {l : List UInt8} (a : l.length ≤ 80) (b : ∀ x ∈ l, tcB x = true) : textB l = true := by
  unfold textB; simp [a]; exact b
theorem plF_id (l : List UInt8) (h : ∀ x ∈ l, x ≠ 60) : ∀ o, l.foldl plS (false, o) = (false, o ++ l) := by
  induction l with
  | nil => intro o; simp
  | cons c l ih =>
    intro o
    rw [List.foldl_cons, plS_out rfl (h c (by simp)), ih (fun x hx => h x (by simp [hx]))]
    simp
/-- what is plain stays so -/
theorem plT_plT (l : List UInt8) : plT (plT l) = plT l := by
  rcases h : textB l with _ | _
  · rw [plT_out h]; rfl
  · rw [plT_in h]
    obtain ⟨h1, h2⟩ := textB_mem h
    have hv : textB (plF l).2 = true := textB_of (by have := plF_len l; omega) (fun x hx => h2 x (plF_mem l x hx).1)
    rw [plT_in hv]
    show ((plF l).2.foldl plS (false, [])).2 = _
    rw [plF_id _ (fun x hx => (plF_mem l x hx).2)]; rfl
end Go.Proofs.Ytoiglenodiomhaa
