/-
  The verifier's own text: DateLess.
-/
import Derived.Test.YtmlmedmopbhdjaaDaysMath
import Derived.Sort.Walk0
import Derived.WalkKit
import Derived.Lib.Hide
namespace Go.Proofs.Ytmlmedmopbhdjaa
open Go.RowKit
set_option linter.unusedVariables false
theorem dg_lt {a b : Int} (a0 : 0 ≤ a) (a9 : a ≤ 9) (b0 : 0 ≤ b) (b9 : b ≤ 9) : (dg a < dg b) ↔ a < b := by
  have h1 := dg_toNat a0 a9; have h2 := dg_toNat b0 b9
  rw [UInt8.lt_iff_toNat_lt]; omega
theorem dg_eq {a b : Int} (a0 : 0 ≤ a) (a9 : a ≤ 9) (b0 : 0 ≤ b) (b9 : b ≤ 9) : (dg a = dg b) ↔ a = b := by
  have h1 := dg_toNat a0 a9; have h2 := dg_toNat b0 b9
  rw [← UInt8.toNat_inj]; omega
theorem bl_dg {a b : Int} (a0 : 0 ≤ a) (a9 : a ≤ 9) (b0 : 0 ≤ b) (b9 : b ≤ 9) (x y : List UInt8) : Op.bytesLess (dg a :: x) (dg b :: y) = true ↔ a < b ∨ (a = b ∧ Op.bytesLess x y = true) := by
  rw [Op.bytesLess, Bool.or_eq_true, Bool.and_eq_true, decide_eq_true_eq, beq_iff_eq, dg_lt a0 a9 b0 b9, dg_eq a0 a9 b0 b9]
theorem bl_pt (x y : List UInt8) : Op.bytesLess (46 :: x) (46 :: y) = true ↔ Op.bytesLess x y = true := by
  rw [Op.bytesLess]; simp
theorem date_less {y m d y' m' d' : Int} (h : IsD y m d) (h' : IsD y' m' d') (l : y < y' ∨ (y = y' ∧ (m < m' ∨ (m = m' ∧ d < d')))) : Op.bytesLess (dateL y m d) (dateL y' m' d') = true := by
  obtain ⟨a1, a2, a3, a4, a5, a6⟩ := isD_rng h
  obtain ⟨b1, b2, b3, b4, b5, b6⟩ := isD_rng h'
  unfold dateL
  rw [bl_dg (by omega) (by omega) (by omega) (by omega), bl_dg (by omega) (by omega) (by omega) (by omega), bl_dg (by omega) (by omega) (by omega) (by omega), bl_dg (by omega) (by omega) (by omega) (by omega), bl_pt,
    bl_dg (by omega) (by omega) (by omega) (by omega), bl_dg (by omega) (by omega) (by omega) (by omega), bl_pt, bl_dg (by omega) (by omega) (by omega) (by omega), bl_dg (by omega) (by omega) (by omega) (by omega)]
  rcases l with l | ⟨rfl, l | ⟨rfl, l⟩⟩
  · clear h h'; omega
  · clear h h'; refine .inr ⟨rfl, .inr ⟨rfl, .inr ⟨rfl, .inr ⟨rfl, ?_⟩⟩⟩⟩; omega
  · clear h h'; refine .inr ⟨rfl, .inr ⟨rfl, .inr ⟨rfl, .inr ⟨rfl, .inr ⟨rfl, .inr ⟨rfl, ?_⟩⟩⟩⟩⟩⟩; omega
theorem date_lex {y m d y' m' d' : Int} (h : IsD y m d) (h' : IsD y' m' d') (e : numD y m d < numD y' m' d') : y < y' ∨ (y = y' ∧ (m < m' ∨ (m = m' ∧ d < d'))) := by
  have a := h.bd; have b := h'.bd
  rcases Int.lt_trichotomy y y' with l | l | l
  · exact .inl l
  · refine .inr ⟨l, ?_⟩
    subst l
    rcases Int.lt_trichotomy m m' with k | k | k
    · exact .inl k
    · refine .inr ⟨k, ?_⟩
      subst k; unfold numD at e; omega
    · have x := dbm_mono y (m := m' + 1) (k := m) (by have := h'.m1; omega) (by omega) h.m2
      rw [dbm_succ y h'.m1 h'.m2] at x; have := h'.d2; have := h.d1; unfold numD at e; omega
  · have := dby_mono (a := y' + 1) (b := y) (by have := h'.y1; omega) (by omega); omega
theorem less_asymm {a b : List UInt8} (h : Op.bytesLess a b = true) : Op.bytesLess b a = false ∧ b ≠ a := by
  rw [bytesLess_eq] at h
  have h := of_decide_eq_true h
  refine ⟨?_, ?_⟩
  · rw [bytesLess_eq]; exact decide_eq_false (List.lt_asymm h)
  · rintro rfl; exact List.lt_irrefl _ h
theorem dateT_next {n : Int} (h0 : 0 ≤ n) (h1 : n + 1 ≤ 1460969) : Op.bytesLess (dateT (n + 1)) (dateT n) = false ∧ dateT (n + 1) ≠ dateT n := by
  obtain ⟨y, m, d, hd, e⟩ := date_of h0 (by omega : n ≤ 1460969)
  obtain ⟨y', m', d', hd', e'⟩ := date_of (by omega : 0 ≤ n + 1) h1
  rw [← e', ← e, dateT_of hd, dateT_of hd']
  exact less_asymm (date_less hd hd' (date_lex hd hd' (by omega)))
theorem dateT_ten {n : Int} (h0 : 0 ≤ n) (h1 : n ≤ 1460969) : (dateT n).length = 10 ∧ readD (dateT n) = n := by
  obtain ⟨y, m, d, hd, e⟩ := date_of h0 h1
  rw [← e, dateT_of hd]
  exact ⟨rfl, readD_date hd⟩
theorem readD_nil : readD [] = -1 := readD_bad (fun g => by have := g.len; simp at this)
theorem readD_long {l : List UInt8} (h : l.length ≠ 10) : readD l = -1 := readD_bad (fun g => h g.len)
end Go.Proofs.Ytmlmedmopbhdjaa
