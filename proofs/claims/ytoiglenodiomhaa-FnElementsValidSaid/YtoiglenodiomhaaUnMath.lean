/-
  The verifier's own text: UnMath.
-/
import Derived.Test.YtoiglenodiomhaaEscMath
import Derived.WalkKit
import Derived.Lib.Hide
namespace Go.Proofs.Ytoiglenodiomhaa
open Go.RowKit
set_option linter.unusedVariables false
/-- what is known of a reading: whoever is written so begins with l -/
def InvU (s l : List UInt8) (k : Nat) : Prop := ∀ t, textB t = true → escL t = s → ∃ t2, t = l ++ t2 ∧ escL l = s.take k
theorem invU_zero (s : List UInt8) : InvU s [] 0 := fun t _ _ => ⟨t, rfl, by simp [escL_nil]⟩
theorem drop_ne {s : List UInt8} {k : Nat} (hk : k < s.length) : s.drop k ≠ [] := by
  intro h; have := congrArg List.length h; simp at this; omega
theorem invU_step {s l : List UInt8} {k n : Nat} {c : UInt8} (h : InvU s l k) (hk : k < s.length) (hstep : firstE (s.drop k) = (c, n) ∨ firstE (s.drop k) = (0, 0)) : InvU s (l ++ [c]) (k + n) := by
  intro t ht he
  obtain ⟨t2, e, e2⟩ := h t ht he
  have e3 : escL t2 = s.drop k := by
    have h1 : escL l ++ escL t2 = s.take k ++ s.drop k := by rw [← escL_append, ← e, he, List.take_append_drop]
    rw [e2] at h1; exact List.append_cancel_left h1
  rcases firstE_or (s.drop k) (drop_ne hk) with ⟨a1, a2, a3, a4⟩ | ⟨b1, b2⟩
  · rcases hstep with hs | hs
    · rw [hs] at a1 a2 a3 a4
      obtain ⟨x, t3, ex, ex2⟩ := escL_head (t := t2) (by rintro rfl; exact drop_ne hk e3.symm)
      have hx : x = c := by
        refine escB_pre (a := escL t3) (b := (s.drop k).drop n) ?_
        rw [← ex2, e3, ← a4, List.take_append_drop]
      subst hx
      refine ⟨t3, by rw [e, ex]; simp, ?_⟩
      rw [escL_snoc, e2, ← a4]
      rw [List.take_add]
    · rw [hs] at a1; omega
  · exact absurd e3 (b2 t2)
theorem headD_drop (s : List UInt8) (k : Nat) (hk : k < s.length) : ∃ r, s.drop k = s[k] :: r := ⟨s.drop (k + 1), List.drop_eq_getElem_cons hk⟩
/-- a byte that is no ampersand -/
theorem step_plain {s : List UInt8} {k : Nat} (hk : k < s.length) (h : s[k] ≠ 38) : firstE (s.drop k) = (s[k], 1) ∨ firstE (s.drop k) = (0, 0) := by
  rcases firstE_or (s.drop k) (drop_ne hk) with ⟨a1, a2, a3, a4⟩ | ⟨b1, b2⟩
  · refine .inl ?_
    obtain ⟨r, hr⟩ := headD_drop s k hk
    generalize firstE (s.drop k) = p at a1 a2 a3 a4 ⊢
    obtain ⟨c, n⟩ := p
    simp only at a1 a2 a3 a4
    have hl := congrArg List.length a4
    rw [List.length_take, Nat.min_eq_left a3] at hl
    rw [hr] at a4
    obtain ⟨m, rfl⟩ : ∃ m, n = m + 1 := ⟨n - 1, by omega⟩
    rw [List.take_succ_cons] at a4
    rcases nm_cases c with ⟨rfl, hc⟩ | ⟨rfl, hc⟩ | ⟨rfl, hc⟩ | ⟨rfl, hc⟩ | ⟨c1, c2, c3, c4, hc⟩
    all_goals (simp [escB, hc] at a4 hl)
    · exact absurd a4.1 h
    · exact absurd a4.1 h
    · exact absurd a4.1 h
    · exact absurd a4.1 h
    · rw [a4.1, hl]
  · exact .inr b1
/-- the name of c stands at k -/
def hitU (s : List UInt8) (k : Nat) (c : UInt8) : Prop := nmL c ≠ [] ∧ (s.drop k).take (nmL c).length = nmL c
theorem hit_app {s : List UInt8} {k : Nat} {c : UInt8} (h : hitU s k c) : nmL c ++ (s.drop k).drop (nmL c).length = s.drop k := by
  have := List.take_append_drop (nmL c).length (s.drop k)
  rw [h.2] at this; exact this
theorem step_hit {s : List UInt8} {k : Nat} {c : UInt8} (hk : k < s.length) (h : hitU s k c) : firstE (s.drop k) = (c, (nmL c).length) ∨ firstE (s.drop k) = (0, 0) := by
  rcases firstE_or (s.drop k) (drop_ne hk) with ⟨a1, a2, a3, a4⟩ | ⟨b1, b2⟩
  · refine .inl ?_
    generalize firstE (s.drop k) = p at a1 a2 a3 a4 ⊢
    obtain ⟨d, n⟩ := p
    simp only at a1 a2 a3 a4
    have e : c = d := by
      refine escB_pre (a := (s.drop k).drop (nmL c).length) (b := (s.drop k).drop n) ?_
      rw [← a4, List.take_append_drop, escB_named h.1]; exact hit_app h
    subst e
    have hl := congrArg List.length a4
    rw [List.length_take, Nat.min_eq_left a3, escB_named h.1] at hl
    rw [hl]
  · exact .inr b1
theorem hit_one {s : List UInt8} {k : Nat} {c d : UInt8} (h : hitU s k c) (h' : hitU s k d) : c = d := by
  refine escB_pre (a := (s.drop k).drop (nmL c).length) (b := (s.drop k).drop (nmL d).length) ?_
  rw [escB_named h.1, escB_named h'.1]
  rw [hit_app h, hit_app h']
theorem step_none {s : List UInt8} {k : Nat} (hk : k < s.length) (h : s[k] = 38) (hn : ∀ c, ¬ hitU s k c) : firstE (s.drop k) = (0, 0) := by
  rcases firstE_or (s.drop k) (drop_ne hk) with ⟨a1, a2, a3, a4⟩ | ⟨b1, b2⟩
  · exfalso
    obtain ⟨r, hr⟩ := headD_drop s k hk
    generalize firstE (s.drop k) = p at a1 a2 a3 a4
    obtain ⟨c, n⟩ := p
    simp only at a1 a2 a3 a4
    by_cases hc : nmL c = []
    · have hl := congrArg List.length a4
      rw [List.length_take, Nat.min_eq_left a3] at hl
      rw [escB_plain hc, hr] at a4
      obtain ⟨m, rfl⟩ : ∃ m, n = m + 1 := ⟨n - 1, by omega⟩
      rw [List.take_succ_cons, h] at a4
      have : c = 38 := by simpa using (List.cons.inj a4).1.symm
      subst this; simp [nmL] at hc
    · refine hn c ⟨hc, ?_⟩
      have hl := congrArg List.length a4
      rw [List.length_take, Nat.min_eq_left a3, escB_named hc] at hl
      rw [← hl, a4, escB_named hc]
  · exact b1
theorem hit_or (s : List UInt8) (k : Nat) : (∃ c, hitU s k c) ∨ ∀ c, ¬ hitU s k c := by
  by_cases h : ∃ c, hitU s k c
  · exact .inl h
  · exact .inr fun c hc => h ⟨c, hc⟩
/-- the byte whose name stands there is one of four -/
theorem hit_four {s : List UInt8} {k : Nat} {c : UInt8} (h : hitU s k c) : 34 ≤ c.toNat ∧ c.toNat ≤ 62 := by
  rcases nm_cases c with ⟨rfl, hc⟩ | ⟨rfl, hc⟩ | ⟨rfl, hc⟩ | ⟨rfl, hc⟩ | ⟨c1, c2, c3, c4, hc⟩
  · decide
  · decide
  · decide
  · decide
  · exact absurd hc h.1
theorem hit_len {s : List UInt8} {k : Nat} {c : UInt8} (hk : k < s.length) (h : hitU s k c) : k + (nmL c).length ≤ s.length ∧ 1 ≤ (nmL c).length ∧ (nmL c).length ≤ 6 := by
  have hl := congrArg List.length h.2
  rw [List.length_take, List.length_drop] at hl
  have h1 : (nmL c).length ≠ 0 := fun e => h.1 (List.length_eq_zero_iff.1 e)
  have := nm_len c
  omega
theorem un_yes {s l : List UInt8} (a : textB l = true) (b : escL l = s) : unT s = (l, true) := unT_yes a b
theorem un_long {s l : List UInt8} {k : Nat} (h : InvU s l k) (hl : 80 < l.length) : unT s = ([], false) :=
  unT_no fun t ht e => by
    obtain ⟨t2, e1, _⟩ := h t ht e
    have := textB_len ht; rw [e1, List.length_append] at this; omega
theorem un_off {s l : List UInt8} {k : Nat} (h : InvU s l k) (hk : s.length ≤ k) (hn : ¬ (textB l = true ∧ escL l = s)) : unT s = ([], false) :=
  unT_no fun t ht e => by
    obtain ⟨t2, e1, e2⟩ := h t ht e
    rw [List.take_of_length_le hk] at e2
    have : t = l := escL_inj (by rw [e, e2])
    subst this
    exact hn ⟨ht, e2⟩
/-- the straight reading -/
theorem dec_step {s l : List UInt8} {k n : Nat} {c : UInt8} (h : escL l = s.take k) (h' : (s.drop k).take n = escB c) : escL (l ++ [c]) = s.take (k + n) := by
  rw [escL_snoc, h, ← h', List.take_add]
theorem dec_stop {s l : List UInt8} {k : Nat} (h : escL l = s.take k) (hn : ∀ t, escL t ≠ s.drop k) : unT s = ([], false) :=
  unT_no fun t _ e => by
    have : escL t = escL l ++ s.drop k := by rw [e, h, List.take_append_drop]
    obtain ⟨t2, _, e2⟩ := escL_pre l t _ this
    exact hn t2 e2
theorem dec_off {s l : List UInt8} (h : escL l = s) (hn : textB l = false) : unT s = ([], false) :=
  unT_no fun t ht e => by
    have : t = l := escL_inj (by rw [e, h])
    subst this; rw [hn] at ht; cases ht
end Go.Proofs.Ytoiglenodiomhaa
