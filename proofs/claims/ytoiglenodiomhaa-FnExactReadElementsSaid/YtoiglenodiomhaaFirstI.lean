/-
  The verifier's own text: FirstI.
-/
import Derived.Test.YtoiglenodiomhaaRows
import Derived.Test.YtoiglenodiomhaaNameOfI
import Derived.Test.YtoiglenodiomhaaBegI
import Derived.WalkKit
import Derived.ProofKit
import Derived.Below
import Derived.Lib.Hide
import Derived.Outline
import Derived.BigQuiet
import Derived.Deep.QuietTactic
import Derived.Deep.Draws
import Derived.Laws.OwnMore
import Derived.Laws.Rows
import Derived.WalkSpells
import Derived.Deep.RegionWith
namespace Go.Proofs.Ytoiglenodiomhaa
open Go.RowKit
set_option linter.unusedVariables false
/-- a byte and a number, and memory that grew -/
def GotBN (p : UInt8 × Nat) (w : World) (e : Ending) (w' : World) : Prop := e = .returned (.tuple #[.int .u8 p.1.toNat, .int .i64 p.2]) ∧ Below w.heap.size w w'
def tkB (s : ByteArray) (l : List UInt8) : Bool := decide (s.data.toList.take (bs l).size = (bs l).data.toList)
theorem beg_lit (s : ByteArray) (l : List UInt8) (w : World) (hs : s.size ≤ maxLen) (hb : l.length ≤ 10) :
    Calls Try.prog 58 #[.string s, .string (bs l)] w fun e w' => e = .returned (.bool (tkB s l)) ∧ w = w' :=
  beg_any s (bs l) w hs (by rw [bs_size]; unfold maxLen; omega)
theorem tk_of (s : ByteArray) (l : List UInt8) : tkB s l = decide (s.data.toList.take l.length = l) := rfl
theorem first_of (s : ByteArray) (h : ¬ nmL (s.data.toList.headD 0) = []) :
    (tkB s [38, 97, 109, 112, 59] = true ∧ firstE s.data.toList = (38, 5)) ∨
    (tkB s [38, 97, 109, 112, 59] = false ∧ tkB s [38, 108, 116, 59] = true ∧ firstE s.data.toList = (60, 4)) ∨
    (tkB s [38, 97, 109, 112, 59] = false ∧ tkB s [38, 108, 116, 59] = false ∧ tkB s [38, 103, 116, 59] = true ∧ firstE s.data.toList = (62, 4)) ∨
    (tkB s [38, 97, 109, 112, 59] = false ∧ tkB s [38, 108, 116, 59] = false ∧ tkB s [38, 103, 116, 59] = false ∧ tkB s [38, 113, 117, 111, 116, 59] = true ∧ firstE s.data.toList = (34, 6)) ∨
    (tkB s [38, 97, 109, 112, 59] = false ∧ tkB s [38, 108, 116, 59] = false ∧ tkB s [38, 103, 116, 59] = false ∧ tkB s [38, 113, 117, 111, 116, 59] = false ∧ firstE s.data.toList = (0, 0)) := by
  simp only [tk_of]
  unfold firstE
  rw [if_neg h]
  by_cases b : s.data.toList.take 5 = nmL 38
  · rw [if_pos b]; exact .inl ⟨decide_eq_true b, rfl⟩
  · rw [if_neg b]
    have b' := decide_eq_false b
    by_cases c : s.data.toList.take 4 = nmL 60
    · rw [if_pos c]; exact .inr (.inl ⟨b', decide_eq_true c, rfl⟩)
    · rw [if_neg c]
      have c' := decide_eq_false c
      by_cases d : s.data.toList.take 4 = nmL 62
      · rw [if_pos d]; exact .inr (.inr (.inl ⟨b', c', decide_eq_true d, rfl⟩))
      · rw [if_neg d]
        have d' := decide_eq_false d
        by_cases e : s.data.toList.take 6 = nmL 34
        · rw [if_pos e]; exact .inr (.inr (.inr (.inl ⟨b', c', d', decide_eq_true e, rfl⟩)))
        · rw [if_neg e]; exact .inr (.inr (.inr (.inr ⟨b', c', d', decide_eq_false e, rfl⟩)))
set_option maxHeartbeats 2000000 in
theorem first_any (s : ByteArray) (w : World) (hs : s.size ≤ maxLen) (h0 : 0 < s.size) :
    Calls Try.prog 60 #[.string s] w (GotBN (firstE s.data.toList) w) := by
  have hs' := hs
  unfold maxLen at hs'
  have hh := bhead s h0
  by_cases he : nmL s[0] = []
  · have HR : Hid (firstE s.data.toList = (s[0], 1)) := Lib.hid (by unfold firstE; rw [hh, if_pos he])
    have z : (bs (nmL s[0])).toList = [] := by rw [he]; exact str_nil rfl
    clear he hh
    go_enter Try.func60, Try.ntmps60
    go_wp2_with (go_at_call 53; refine (nameOf_any _ _).mono ?_; rintro e w2 ⟨rfl, hb2⟩)
    go_ret2
    exact ⟨by rw [HR.out]; rfl, hb2⟩
  · have HF := first_of s (by rw [hh]; exact he)
    have hne : (bs (nmL s[0])).size ≠ 0 := by rw [bs_size]; exact fun h => he (List.length_eq_zero_iff.1 h)
    have z := str_ne hne
    have z2 := str_full hne
    clear he hne hh
    rcases HF with ⟨t1, HR⟩ | ⟨t1, t2, HR⟩ | ⟨t1, t2, t3, HR⟩ | ⟨t1, t2, t3, t4, HR⟩ | ⟨t1, t2, t3, t4, HR⟩
    · have HR := Lib.hid HR
      have t1 := Lib.hid t1
      go_enter Try.func60, Try.ntmps60
      go_wp2_with (first | (go_at_call 53; refine (nameOf_any _ _).mono ?_; rintro e w2 ⟨rfl, hb2⟩; have hb2 := Lib.hid hb2) | (go_at_call 59; refine (table_lit _).mono ?_; rintro e w1 ⟨rfl, rfl⟩))
      refine wp_loop_rounds 1 ?_
      rw [rounds_succ]; go_wp2_with (go_at_call 58; refine (beg_lit _ _ _ hs (by simp)).mono ?_; rintro e w' ⟨rfl, rfl⟩; (first | rw [t1.out]))
      go_region
      all_goals
        (try (go_wp2))
        go_ret2
        exact ⟨by rw [HR.out]; rfl, by repeat (first | exact hb2.out | refine Below.drew ?_ | refine Below.alloc ?_ (by have := hb2.out.size; simp <;> omega) _ | refine Below.setCell ?_ (by have := hb2.out.size; simp <;> omega) _)⟩
    · have HR := Lib.hid HR
      have t1 := Lib.hid t1
      have t2 := Lib.hid t2
      go_enter Try.func60, Try.ntmps60
      go_wp2_with (first | (go_at_call 53; refine (nameOf_any _ _).mono ?_; rintro e w2 ⟨rfl, hb2⟩; have hb2 := Lib.hid hb2) | (go_at_call 59; refine (table_lit _).mono ?_; rintro e w1 ⟨rfl, rfl⟩))
      refine wp_loop_rounds 2 ?_
      rw [rounds_succ]; go_wp2_with (go_at_call 58; refine (beg_lit _ _ _ hs (by simp)).mono ?_; rintro e w' ⟨rfl, rfl⟩; (first | rw [t1.out] | rw [t2.out]))
      rw [rounds_succ]; go_wp2_with (go_at_call 58; refine (beg_lit _ _ _ hs (by simp)).mono ?_; rintro e w' ⟨rfl, rfl⟩; (first | rw [t1.out] | rw [t2.out]))
      go_region
      all_goals
        (try (go_wp2))
        go_ret2
        exact ⟨by rw [HR.out]; rfl, by repeat (first | exact hb2.out | refine Below.drew ?_ | refine Below.alloc ?_ (by have := hb2.out.size; simp <;> omega) _ | refine Below.setCell ?_ (by have := hb2.out.size; simp <;> omega) _)⟩
    · have HR := Lib.hid HR
      have t1 := Lib.hid t1
      have t2 := Lib.hid t2
      have t3 := Lib.hid t3
      go_enter Try.func60, Try.ntmps60
      go_wp2_with (first | (go_at_call 53; refine (nameOf_any _ _).mono ?_; rintro e w2 ⟨rfl, hb2⟩; have hb2 := Lib.hid hb2) | (go_at_call 59; refine (table_lit _).mono ?_; rintro e w1 ⟨rfl, rfl⟩))
      refine wp_loop_rounds 3 ?_
      rw [rounds_succ]; go_wp2_with (go_at_call 58; refine (beg_lit _ _ _ hs (by simp)).mono ?_; rintro e w' ⟨rfl, rfl⟩; (first | rw [t1.out] | rw [t2.out] | rw [t3.out]))
      rw [rounds_succ]; go_wp2_with (go_at_call 58; refine (beg_lit _ _ _ hs (by simp)).mono ?_; rintro e w' ⟨rfl, rfl⟩; (first | rw [t1.out] | rw [t2.out] | rw [t3.out]))
      rw [rounds_succ]; go_wp2_with (go_at_call 58; refine (beg_lit _ _ _ hs (by simp)).mono ?_; rintro e w' ⟨rfl, rfl⟩; (first | rw [t1.out] | rw [t2.out] | rw [t3.out]))
      go_region
      all_goals
        (try (go_wp2))
        go_ret2
        exact ⟨by rw [HR.out]; rfl, by repeat (first | exact hb2.out | refine Below.drew ?_ | refine Below.alloc ?_ (by have := hb2.out.size; simp <;> omega) _ | refine Below.setCell ?_ (by have := hb2.out.size; simp <;> omega) _)⟩
    · have HR := Lib.hid HR
      have t1 := Lib.hid t1
      have t2 := Lib.hid t2
      have t3 := Lib.hid t3
      have t4 := Lib.hid t4
      go_enter Try.func60, Try.ntmps60
      go_wp2_with (first | (go_at_call 53; refine (nameOf_any _ _).mono ?_; rintro e w2 ⟨rfl, hb2⟩; have hb2 := Lib.hid hb2) | (go_at_call 59; refine (table_lit _).mono ?_; rintro e w1 ⟨rfl, rfl⟩))
      refine wp_loop_rounds 4 ?_
      rw [rounds_succ]; go_wp2_with (go_at_call 58; refine (beg_lit _ _ _ hs (by simp)).mono ?_; rintro e w' ⟨rfl, rfl⟩; (first | rw [t1.out] | rw [t2.out] | rw [t3.out] | rw [t4.out]))
      rw [rounds_succ]; go_wp2_with (go_at_call 58; refine (beg_lit _ _ _ hs (by simp)).mono ?_; rintro e w' ⟨rfl, rfl⟩; (first | rw [t1.out] | rw [t2.out] | rw [t3.out] | rw [t4.out]))
      rw [rounds_succ]; go_wp2_with (go_at_call 58; refine (beg_lit _ _ _ hs (by simp)).mono ?_; rintro e w' ⟨rfl, rfl⟩; (first | rw [t1.out] | rw [t2.out] | rw [t3.out] | rw [t4.out]))
      rw [rounds_succ]; go_wp2_with (go_at_call 58; refine (beg_lit _ _ _ hs (by simp)).mono ?_; rintro e w' ⟨rfl, rfl⟩; (first | rw [t1.out] | rw [t2.out] | rw [t3.out] | rw [t4.out]))
      go_region
      all_goals
        (try (go_wp2))
        go_ret2
        exact ⟨by rw [HR.out]; rfl, by repeat (first | exact hb2.out | refine Below.drew ?_ | refine Below.alloc ?_ (by have := hb2.out.size; simp <;> omega) _ | refine Below.setCell ?_ (by have := hb2.out.size; simp <;> omega) _)⟩
    · have HR := Lib.hid HR
      have t1 := Lib.hid t1
      have t2 := Lib.hid t2
      have t3 := Lib.hid t3
      have t4 := Lib.hid t4
      go_enter Try.func60, Try.ntmps60
      go_wp2_with (first | (go_at_call 53; refine (nameOf_any _ _).mono ?_; rintro e w2 ⟨rfl, hb2⟩; have hb2 := Lib.hid hb2) | (go_at_call 59; refine (table_lit _).mono ?_; rintro e w1 ⟨rfl, rfl⟩))
      refine wp_loop_rounds 5 ?_
      rw [rounds_succ]; go_wp2_with (go_at_call 58; refine (beg_lit _ _ _ hs (by simp)).mono ?_; rintro e w' ⟨rfl, rfl⟩; (first | rw [t1.out] | rw [t2.out] | rw [t3.out] | rw [t4.out]))
      rw [rounds_succ]; go_wp2_with (go_at_call 58; refine (beg_lit _ _ _ hs (by simp)).mono ?_; rintro e w' ⟨rfl, rfl⟩; (first | rw [t1.out] | rw [t2.out] | rw [t3.out] | rw [t4.out]))
      rw [rounds_succ]; go_wp2_with (go_at_call 58; refine (beg_lit _ _ _ hs (by simp)).mono ?_; rintro e w' ⟨rfl, rfl⟩; (first | rw [t1.out] | rw [t2.out] | rw [t3.out] | rw [t4.out]))
      rw [rounds_succ]; go_wp2_with (go_at_call 58; refine (beg_lit _ _ _ hs (by simp)).mono ?_; rintro e w' ⟨rfl, rfl⟩; (first | rw [t1.out] | rw [t2.out] | rw [t3.out] | rw [t4.out]))
      rw [rounds_succ]; go_wp2
      go_ret2
      exact ⟨by rw [HR.out]; rfl, by repeat (first | exact hb2.out | refine Below.drew ?_ | refine Below.alloc ?_ (by have := hb2.out.size; simp <;> omega) _ | refine Below.setCell ?_ (by have := hb2.out.size; simp <;> omega) _)⟩
end Go.Proofs.Ytoiglenodiomhaa
