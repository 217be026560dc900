/-
  The verifier's own text: EscMath.
-/
import Derived.Test.YtoiglenodiomhaaTextMath
import Derived.WalkKit
import Derived.Lib.Hide
namespace Go.Proofs.Ytoiglenodiomhaa
open Go.RowKit
set_option linter.unusedVariables false
/-- the name of a byte, nothing for a byte that stands for itself -/
def nmL (c : UInt8) : List UInt8 := if c = 38 then [38, 97, 109, 112, 59] else if c = 60 then [38, 108, 116, 59] else if c = 62 then [38, 103, 116, 59] else if c = 34 then [38, 113, 117, 111, 116, 59] else []
def escB (c : UInt8) : List UInt8 := if nmL c = [] then [c] else nmL c
def escL (l : List UInt8) : List UInt8 := l.flatMap escB
def escT (l : List UInt8) : List UInt8 := if textB l then escL l else []
theorem nm_cases (c : UInt8) : (c = 38 ∧ nmL c = [38, 97, 109, 112, 59]) ∨ (c = 60 ∧ nmL c = [38, 108, 116, 59]) ∨ (c = 62 ∧ nmL c = [38, 103, 116, 59]) ∨ (c = 34 ∧ nmL c = [38, 113, 117, 111, 116, 59]) ∨ (c ≠ 38 ∧ c ≠ 60 ∧ c ≠ 62 ∧ c ≠ 34 ∧ nmL c = []) := by
  by_cases a : c = 38
  · subst a; exact .inl ⟨rfl, rfl⟩
  · by_cases b : c = 60
    · subst b; exact .inr (.inl ⟨rfl, rfl⟩)
    · by_cases d : c = 62
      · subst d; exact .inr (.inr (.inl ⟨rfl, rfl⟩))
      · by_cases e : c = 34
        · subst e; exact .inr (.inr (.inr (.inl ⟨rfl, rfl⟩)))
        · exact .inr (.inr (.inr (.inr ⟨a, b, d, e, by simp [nmL, a, b, d, e]⟩)))
theorem escB_plain {c : UInt8} (h : nmL c = []) : escB c = [c] := by simp [escB, h]
theorem escB_named {c : UInt8} (h : nmL c ≠ []) : escB c = nmL c := by simp [escB, h]
theorem escB_len (c : UInt8) : 1 ≤ (escB c).length ∧ (escB c).length ≤ 6 := by
  rcases nm_cases c with ⟨_, h⟩ | ⟨_, h⟩ | ⟨_, h⟩ | ⟨_, h⟩ | ⟨_, _, _, _, h⟩
  all_goals (simp [escB, h])
theorem nm_len (c : UInt8) : (nmL c).length ≤ 6 := by
  rcases nm_cases c with ⟨_, h⟩ | ⟨_, h⟩ | ⟨_, h⟩ | ⟨_, h⟩ | ⟨_, _, _, _, h⟩
  all_goals (simp [h])
theorem escB_pre {c d : UInt8} {a b : List UInt8} (h : escB c ++ a = escB d ++ b) : c = d := by
  rcases nm_cases c with ⟨rfl, hc⟩ | ⟨rfl, hc⟩ | ⟨rfl, hc⟩ | ⟨rfl, hc⟩ | ⟨c1, c2, c3, c4, hc⟩
  all_goals rcases nm_cases d with ⟨rfl, hd⟩ | ⟨rfl, hd⟩ | ⟨rfl, hd⟩ | ⟨rfl, hd⟩ | ⟨d1, d2, d3, d4, hd⟩
  all_goals (simp [escB, hc, hd] at h ⊢)
  all_goals first | exact h.1 | (exact absurd h.1 (by first | assumption | exact fun e => by simp_all))
theorem escL_nil : escL [] = [] := rfl
theorem escL_cons (c : UInt8) (l : List UInt8) : escL (c :: l) = escB c ++ escL l := by simp [escL]
theorem escL_append (a b : List UInt8) : escL (a ++ b) = escL a ++ escL b := by simp [escL]
theorem escL_snoc (a : List UInt8) (c : UInt8) : escL (a ++ [c]) = escL a ++ escB c := by simp [escL]
theorem escL_pre : ∀ (t t' r : List UInt8), escL t' = escL t ++ r → ∃ t2, t' = t ++ t2 ∧ escL t2 = r := by
  intro t
  induction t with
  | nil => intro t' r h; exact ⟨t', rfl, by simpa [escL_nil] using h⟩
  | cons c t ih =>
    intro t' r h
    rw [escL_cons, List.append_assoc] at h
    cases t' with
    | nil =>
      have := congrArg List.length h
      have := (escB_len c).1
      simp [escL_nil] at *
      omega
    | cons d t1 =>
      rw [escL_cons] at h
      have e := escB_pre h
      subst e
      obtain ⟨t2, e2, e3⟩ := ih t1 r (List.append_cancel_left h)
      exact ⟨t2, by rw [e2]; rfl, e3⟩
theorem escL_eq_nil {t : List UInt8} (h : escL t = []) : t = [] := by
  cases t with
  | nil => rfl
  | cons c t => rw [escL_cons] at h; have h1 := (escB_len c).1; have h2 := congrArg List.length h; rw [List.length_append, List.length_nil] at h2; omega
theorem escL_inj {t t' : List UInt8} (h : escL t' = escL t) : t' = t := by
  obtain ⟨t2, e, e2⟩ := escL_pre t t' [] (by rw [h]; simp)
  rw [e, escL_eq_nil e2, List.append_nil]
theorem escL_len (t : List UInt8) : t.length ≤ (escL t).length ∧ (escL t).length ≤ 6 * t.length := by
  induction t with
  | nil => simp [escL_nil]
  | cons c t ih => rw [escL_cons]; have := escB_len c; simp; omega
theorem escL_head {t : List UInt8} (h : t ≠ []) : ∃ (c : UInt8) (t1 : List UInt8), t = c :: t1 ∧ escL t = escB c ++ escL t1 := by
  cases t with
  | nil => exact absurd rfl h
  | cons c t => exact ⟨c, t, rfl, escL_cons c t⟩
/-- what a text begins with: a byte and how many bytes write it, 0 and 0 for none -/
def firstE (l : List UInt8) : UInt8 × Nat :=
  if nmL (l.headD 0) = [] then (l.headD 0, 1) else if l.take 5 = nmL 38 then (38, 5) else if l.take 4 = nmL 60 then (60, 4) else if l.take 4 = nmL 62 then (62, 4) else if l.take 6 = nmL 34 then (34, 6) else (0, 0)
theorem firstE_or (l : List UInt8) (h : l ≠ []) : (1 ≤ (firstE l).2 ∧ (firstE l).2 ≤ 6 ∧ (firstE l).2 ≤ l.length ∧ l.take (firstE l).2 = escB (firstE l).1) ∨ (firstE l = (0, 0) ∧ ∀ t, escL t ≠ l) := by
  have hl : 0 < l.length := List.length_pos_iff.2 h
  have key : ∀ (n : Nat) (c : UInt8), l.take n = nmL c → n = (nmL c).length → n ≤ l.length := by
    intro n c e1 e2
    have := congrArg List.length e1
    simp at this; omega
  unfold firstE
  by_cases a : nmL (l.headD 0) = []
  · rw [if_pos a]
    refine .inl ⟨by simp, by simp, hl, ?_⟩
    rw [escB_plain a]
    cases l with
    | nil => exact absurd rfl h
    | cons c l => rfl
  · rw [if_neg a]
    by_cases b : l.take 5 = nmL 38
    · rw [if_pos b]; exact .inl ⟨by simp, by simp, key 5 38 b rfl, b.trans rfl⟩
    · rw [if_neg b]
      by_cases c : l.take 4 = nmL 60
      · rw [if_pos c]; exact .inl ⟨by simp, by simp, key 4 60 c rfl, c.trans rfl⟩
      · rw [if_neg c]
        by_cases d : l.take 4 = nmL 62
        · rw [if_pos d]; exact .inl ⟨by simp, by simp, key 4 62 d rfl, d.trans rfl⟩
        · rw [if_neg d]
          by_cases e : l.take 6 = nmL 34
          · rw [if_pos e]; exact .inl ⟨by simp, by simp, key 6 34 e rfl, e.trans rfl⟩
          · rw [if_neg e]
            refine .inr ⟨rfl, ?_⟩
            intro t ht
            have ht0 : t ≠ [] := by rintro rfl; exact h ht.symm
            obtain ⟨x, t1, rfl, hx⟩ := escL_head ht0
            rw [ht] at hx
            rcases nm_cases x with ⟨rfl, hn⟩ | ⟨rfl, hn⟩ | ⟨rfl, hn⟩ | ⟨rfl, hn⟩ | ⟨x1, x2, x3, x4, hn⟩
            · exact b (by rw [hx]; rfl)
            · exact c (by rw [hx]; rfl)
            · exact d (by rw [hx]; rfl)
            · exact e (by rw [hx]; rfl)
            · exact a (by rw [hx, escB_plain hn]; exact hn)
/-- the text that is written so -/
def decF : Nat → List UInt8 → Option (List UInt8)
  | 0, l => if l = [] then some [] else none
  | f + 1, l => if l = [] then some [] else if (firstE l).2 = 0 then none else (decF f (l.drop (firstE l).2)).map ((firstE l).1 :: ·)
theorem dec_nil_iff (t : List UInt8) : (some [] = some t) ↔ escL t = [] := by
  constructor
  · intro h; cases h; rfl
  · intro h; rw [escL_eq_nil h]
theorem decF_iff : ∀ (f : Nat) (l : List UInt8), l.length ≤ f → ∀ t, decF f l = some t ↔ escL t = l := by
  intro f
  induction f with
  | zero =>
    intro l h t
    have : l = [] := List.length_eq_zero_iff.1 (by omega)
    subst this
    exact dec_nil_iff t
  | succ f ih =>
    intro l h t
    by_cases e : l = []
    · subst e; simp only [decF, if_true]; exact dec_nil_iff t
    · simp only [decF, e, if_false]
      rcases firstE_or l e with ⟨a, _, b, c⟩ | ⟨a, b⟩
      · rw [if_neg (by omega)]
        have hs : escB (firstE l).1 ++ l.drop (firstE l).2 = l := by rw [← c, List.take_append_drop]
        constructor
        · intro hm
          obtain ⟨t1, h1, h2⟩ := Option.map_eq_some_iff.1 hm
          subst h2
          rw [escL_cons, (ih _ (by simp; omega) t1).1 h1, hs]
        · intro ht
          have h0 : escL t = escL [(firstE l).1] ++ l.drop (firstE l).2 := by
            rw [escL_cons, escL_nil, List.append_nil, hs]; exact ht
          obtain ⟨t2, e2, e3⟩ := escL_pre _ _ _ h0
          rw [(ih _ (by simp; omega) t2).2 e3, e2]; rfl
      · rw [a]; simp only [if_true]
        constructor
        · intro hh; cases hh
        · intro hh; exact absurd hh (b t)
/-- the valid text whose writing a text is, and whether there is one -/
def unT (l : List UInt8) : List UInt8 × Bool := match decF l.length l with
  | some t => if textB t then (t, true) else ([], false)
  | none => ([], false)
theorem unT_yes {l t : List UInt8} (h : textB t = true) (e : escL t = l) : unT l = (t, true) := by
  unfold unT; rw [(decF_iff l.length l (Nat.le_refl _) t).2 e]; simp [h]
theorem unT_no {l : List UInt8} (h : ∀ t, textB t = true → escL t ≠ l) : unT l = ([], false) := by
  unfold unT
  rcases hd : decF l.length l with _ | t
  · rfl
  · have := (decF_iff l.length l (Nat.le_refl _) t).1 hd
    rcases ht : textB t with _ | _
    · simp [ht]
    · exact absurd this (h t ht)
theorem unT_or (l : List UInt8) : (∃ t, textB t = true ∧ escL t = l ∧ unT l = (t, true)) ∨ ((∀ t, textB t = true → escL t ≠ l) ∧ unT l = ([], false)) := by
  by_cases h : ∃ t, textB t = true ∧ escL t = l
  · obtain ⟨t, a, b⟩ := h
    exact .inl ⟨t, a, b, unT_yes a b⟩
  · have : ∀ t, textB t = true → escL t ≠ l := fun t a b => h ⟨t, a, b⟩
    exact .inr ⟨this, unT_no this⟩
theorem textB_len {t : List UInt8} (h : textB t = true) : t.length ≤ 80 := by
  unfold textB at h; simp at h; exact h.1
theorem escT_len (l : List UInt8) : (escT l).length ≤ 480 := by
  unfold escT
  rcases h : textB l with _ | _
  · simp
  · simp only [if_true]; have := textB_len h; have := (escL_len l).2; omega
theorem escT_in {l : List UInt8} (h : textB l = true) : escT l = escL l := by simp [escT, h]
theorem escT_out {l : List UInt8} (h : textB l = false) : escT l = [] := by simp [escT, h]
theorem unT_long {l : List UInt8} (h : 480 < l.length) : unT l = ([], false) :=
  unT_no fun t ht e => by have := textB_len ht; have := (escL_len t).2; rw [e] at this; omega
/-- no angle bracket is left -/
theorem escB_no (c x : UInt8) (h : x ∈ escB c) : x ≠ 60 ∧ x ≠ 62 := by
  rcases nm_cases c with ⟨rfl, hc⟩ | ⟨rfl, hc⟩ | ⟨rfl, hc⟩ | ⟨rfl, hc⟩ | ⟨c1, c2, c3, c4, hc⟩
  all_goals (simp [escB, hc] at h)
  · rcases h with rfl | rfl | rfl | rfl | rfl <;> decide
  · rcases h with rfl | rfl | rfl | rfl <;> decide
  · rcases h with rfl | rfl | rfl | rfl <;> decide
  · rcases h with rfl | rfl | rfl | rfl | rfl | rfl <;> decide
  · subst h; exact ⟨c2, c3⟩
theorem escL_no (l : List UInt8) (x : UInt8) (h : x ∈ escL l) : x ≠ 60 ∧ x ≠ 62 := by
  unfold escL at h
  obtain ⟨c, _, hc⟩ := List.mem_flatMap.1 h
  exact escB_no c x hc
/-- a writing with one ampersand more is none -/
theorem unT_amp (t : List UInt8) : unT (escL t ++ [38]) = ([], false) := unT_no fun t' _ e => by
  obtain ⟨t2, _, e2⟩ := escL_pre t t' [38] e
  have h0 : t2 ≠ [] := by rintro rfl; simp [escL_nil] at e2
  obtain ⟨x, t1, _, hx⟩ := escL_head h0
  rw [e2] at hx
  have hl := congrArg List.length hx
  rcases nm_cases x with ⟨rfl, hc⟩ | ⟨rfl, hc⟩ | ⟨rfl, hc⟩ | ⟨rfl, hc⟩ | ⟨c1, c2, c3, c4, hc⟩
  all_goals (simp [escB, hc] at hx hl)
  exact c1 hx.1.symm
end Go.Proofs.Ytoiglenodiomhaa
