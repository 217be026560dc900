/-
  The verifier's own text: DaysMath.
-/
import Derived.Test.YtmlmedmopbhdjaaPlain
import Derived.WalkKit
import Derived.Lib.Hide
namespace Go.Proofs.Ytmlmedmopbhdjaa
open Go.RowKit
set_option linter.unusedVariables false
def leapB (y : Int) : Bool := decide (1 ≤ y ∧ y ≤ 4000 ∧ y % 4 = 0 ∧ (y % 100 ≠ 0 ∨ y % 400 = 0))
def lpI (y : Int) : Int := if leapB y then 1 else 0
theorem lpI_bd (y : Int) : 0 ≤ lpI y ∧ lpI y ≤ 1 := by unfold lpI; split <;> omega
theorem lpI_t {y : Int} (h : leapB y = true) : lpI y = 1 := by simp [lpI, h]
theorem lpI_f {y : Int} (h : leapB y = false) : lpI y = 0 := by simp [lpI, h]
/-- the days of the twelve months -/
def md12 (y m : Int) : Int := if m = 2 then 28 + lpI y else if m = 4 ∨ m = 6 ∨ m = 9 ∨ m = 11 then 30 else 31
def mdays (y m : Int) : Int := if 1 ≤ y ∧ y ≤ 4000 ∧ 1 ≤ m ∧ m ≤ 12 then md12 y m else -1
theorem mdays_in {y m : Int} (a : 1 ≤ y) (b : y ≤ 4000) (c : 1 ≤ m) (d : m ≤ 12) : mdays y m = md12 y m := by unfold mdays; rw [if_pos ⟨a, b, c, d⟩]
theorem mdays_out {y m : Int} (h : y < 1 ∨ 4000 < y ∨ m < 1 ∨ 12 < m) : mdays y m = -1 := by unfold mdays; rw [if_neg (by omega)]
theorem md12_bd (y m : Int) : 28 ≤ md12 y m ∧ md12 y m ≤ 31 := by have := lpI_bd y; unfold md12; split <;> (try split) <;> omega
theorem mdays_bd (y m : Int) : -1 ≤ mdays y m ∧ mdays y m ≤ 31 := by have := md12_bd y m; unfold mdays; split <;> omega
/-- days before a year, before a month of it -/
def dby (y : Int) : Int := 365 * (y - 1) + (y - 1) / 4 - (y - 1) / 100 + (y - 1) / 400
def cum (m : Int) : Int := if m ≤ 1 then 0 else if m = 2 then 31 else if m = 3 then 59 else if m = 4 then 90 else if m = 5 then 120 else if m = 6 then 151 else if m = 7 then 181 else if m = 8 then 212 else if m = 9 then 243 else if m = 10 then 273 else if m = 11 then 304 else if m = 12 then 334 else 365
def dbm (y m : Int) : Int := cum m + if 3 ≤ m then lpI y else 0
theorem m12 {m : Int} (c : 1 ≤ m) (d : m ≤ 12) : m = 1 ∨ m = 2 ∨ m = 3 ∨ m = 4 ∨ m = 5 ∨ m = 6 ∨ m = 7 ∨ m = 8 ∨ m = 9 ∨ m = 10 ∨ m = 11 ∨ m = 12 := by omega
theorem dbm_one (y : Int) : dbm y 1 = 0 := by simp [dbm, cum]
theorem dbm_succ (y : Int) {m : Int} (c : 1 ≤ m) (d : m ≤ 12) : dbm y (m + 1) = dbm y m + md12 y m := by
  obtain rfl | rfl | rfl | rfl | rfl | rfl | rfl | rfl | rfl | rfl | rfl | rfl := m12 c d
  all_goals (simp [dbm, cum, md12]; try omega)
theorem dbm_bd (y : Int) {m : Int} (c : 1 ≤ m) (d : m ≤ 13) : 0 ≤ dbm y m ∧ dbm y m ≤ 366 := by
  have := lpI_bd y
  obtain rfl | rfl | rfl | rfl | rfl | rfl | rfl | rfl | rfl | rfl | rfl | rfl | rfl : m = 1 ∨ m = 2 ∨ m = 3 ∨ m = 4 ∨ m = 5 ∨ m = 6 ∨ m = 7 ∨ m = 8 ∨ m = 9 ∨ m = 10 ∨ m = 11 ∨ m = 12 ∨ m = 13 := by omega
  all_goals (simp [dbm, cum]; try omega)
theorem dbm_13 (y : Int) : dbm y 13 = 365 + lpI y := by simp [dbm, cum]
theorem leap_iff {y : Int} (a : 1 ≤ y) (b : y ≤ 4000) : lpI y = (y / 4 - (y - 1) / 4) - (y / 100 - (y - 1) / 100) + (y / 400 - (y - 1) / 400) := by
  rcases h : leapB y with _ | _
  · rw [lpI_f h]; simp [leapB, a, b] at h; omega
  · rw [lpI_t h]; simp [leapB, a, b] at h; omega
theorem dby_succ {y : Int} (a : 1 ≤ y) (b : y ≤ 4000) : dby (y + 1) = dby y + 365 + lpI y := by
  have := leap_iff a b; unfold dby
  have e : y + 1 - 1 = y := by omega
  rw [e]; omega
theorem dby_bd {y : Int} (a : 1 ≤ y) (b : y ≤ 4001) : 0 ≤ dby y ∧ dby y ≤ 1460970 := by unfold dby; omega
theorem dby_one : dby 1 = 0 := by decide
theorem dby_last : dby 4001 = 1460970 := by decide
theorem dby_mono {a b : Int} (h0 : 1 ≤ a) (h : a ≤ b) : dby a ≤ dby b := by unfold dby; omega
theorem dby_lt {a b : Int} (h0 : 1 ≤ a) (h : a < b) : dby a < dby b := by unfold dby; omega
def numD (y m d : Int) : Int := dby y + dbm y m + d - 1
/-- a date -/
def isD (y m d : Int) : Bool := decide (1 ≤ y ∧ y ≤ 4000 ∧ 1 ≤ m ∧ m ≤ 12 ∧ 1 ≤ d ∧ d ≤ mdays y m)
structure IsD (y m d : Int) : Prop where
  y1 : 1 ≤ y
  y2 : y ≤ 4000
  m1 : 1 ≤ m
  m2 : m ≤ 12
  d1 : 1 ≤ d
  d2 : d ≤ md12 y m
def dayN (y m d : Int) : Int := if 1 ≤ d ∧ d ≤ mdays y m then numD y m d else -1
theorem isD_of {y m d : Int} (a : 1 ≤ d) (b : d ≤ mdays y m) : IsD y m d := by
  unfold mdays at b
  split at b
  · rename_i h; exact ⟨h.1, h.2.1, h.2.2.1, h.2.2.2, a, b⟩
  · omega
theorem dayN_in {y m d : Int} (h : IsD y m d) : dayN y m d = numD y m d := by
  unfold dayN; rw [mdays_in h.y1 h.y2 h.m1 h.m2, if_pos ⟨h.d1, h.d2⟩]
theorem dayN_no {y m d : Int} (h : d < 1 ∨ mdays y m < d) : dayN y m d = -1 := by unfold dayN; rw [if_neg (by omega)]
theorem IsD.bd {y m d : Int} (h : IsD y m d) : 0 ≤ numD y m d ∧ numD y m d < dby (y + 1) ∧ dby y ≤ numD y m d ∧ numD y m d ≤ 1460969 := by
  have a := dby_bd h.y1 (by have := h.y2; omega)
  have b := dbm_bd y h.m1 (by have := h.m2; omega)
  have c := dbm_succ y h.m1 h.m2
  have d' := dby_succ h.y1 h.y2
  have e := md12_bd y m
  have f : dbm y (m + 1) ≤ 365 + lpI y := by
    rw [← dbm_13]
    have k1 := h.m1; have k2 := h.m2
    have := lpI_bd y
    obtain rfl | rfl | rfl | rfl | rfl | rfl | rfl | rfl | rfl | rfl | rfl | rfl := m12 k1 k2
    all_goals (simp [dbm, cum]; try omega)
  have g := dby_mono (a := y + 1) (b := 4001) (by have := h.y1; omega) (by have := h.y2; omega)
  have l := dby_last
  have h1 := h.d1; have h2 := h.d2
  unfold numD; omega
theorem dbm_add (y m : Int) (j : Nat) (a : 1 ≤ m) (c : m + j ≤ 12) : dbm y m ≤ dbm y (m + j) := by
  induction j with
  | zero => simp
  | succ j ih =>
    have h1 := ih (by omega)
    have h2 := dbm_succ y (m := m + j) (by omega) (by omega)
    have h3 := md12_bd y (m + j)
    have e : m + ((j + 1 : Nat) : Int) = m + j + 1 := by omega
    rw [e, h2]; omega
theorem dbm_mono (y : Int) {m k : Int} (a : 1 ≤ m) (b : m ≤ k) (c : k ≤ 12) : dbm y m ≤ dbm y k := by
  have h := dbm_add y m (k - m).toNat a (by omega)
  have e : m + ((k - m).toNat : Int) = k := by omega
  rwa [e] at h
theorem num_inj {y m d y' m' d' : Int} (h : IsD y m d) (h' : IsD y' m' d') (e : numD y m d = numD y' m' d') : y = y' ∧ m = m' ∧ d = d' := by
  have a := h.bd; have b := h'.bd
  have ey : y = y' := by
    rcases Int.lt_trichotomy y y' with l | l | l
    · have := dby_mono (a := y + 1) (b := y') (by have := h.y1; omega) (by omega); omega
    · exact l
    · have := dby_mono (a := y' + 1) (b := y) (by have := h'.y1; omega) (by omega); omega
  subst ey
  have em : m = m' := by
    rcases Int.lt_trichotomy m m' with l | l | l
    · have x := dbm_mono y (m := m + 1) (k := m') (by have := h.m1; omega) (by omega) h'.m2
      rw [dbm_succ y h.m1 h.m2] at x; have := h.d2; have := h'.d1; unfold numD at e; omega
    · exact l
    · have x := dbm_mono y (m := m' + 1) (k := m) (by have := h'.m1; omega) (by omega) h.m2
      rw [dbm_succ y h'.m1 h'.m2] at x; have := h'.d2; have := h.d1; unfold numD at e; omega
  subst em
  refine ⟨rfl, rfl, ?_⟩
  unfold numD at e; omega
/-- the year of a day, the month of a day of the year -/
def yrF : Nat → Int → Int
  | 0, _ => 1
  | f + 1, n => if dby ((f : Int) + 2) ≤ n then (f : Int) + 2 else yrF f n
def mthF (y : Int) : Nat → Int → Int
  | 0, _ => 1
  | f + 1, n => if dbm y ((f : Int) + 2) ≤ n then (f : Int) + 2 else mthF y f n
theorem yrF_bd (f : Nat) (n : Int) : 1 ≤ yrF f n ∧ yrF f n ≤ f + 1 := by
  induction f with
  | zero => simp [yrF]
  | succ f ih => unfold yrF; split <;> omega
theorem yrF_lo (f : Nat) {n : Int} (h : 0 ≤ n) : dby (yrF f n) ≤ n := by
  induction f with
  | zero => simp only [yrF]; rw [dby_one]; exact h
  | succ f ih => unfold yrF; split <;> assumption
theorem yrF_hi (f : Nat) {n : Int} (h : n < dby (f + 2)) : n < dby (yrF f n + 1) := by
  induction f with
  | zero => simpa [yrF] using h
  | succ f ih =>
    unfold yrF; split
    · have e : ((f + 1 : Nat) : Int) + 2 = (f : Int) + 2 + 1 := by omega
      rw [e] at h; exact h
    · exact ih (by omega)
theorem mthF_bd (y : Int) (f : Nat) (n : Int) : 1 ≤ mthF y f n ∧ mthF y f n ≤ f + 1 := by
  induction f with
  | zero => simp [mthF]
  | succ f ih => unfold mthF; split <;> omega
theorem mthF_lo (y : Int) (f : Nat) {n : Int} (h : 0 ≤ n) : dbm y (mthF y f n) ≤ n := by
  induction f with
  | zero => simp only [mthF]; rw [dbm_one]; exact h
  | succ f ih => unfold mthF; split <;> assumption
theorem mthF_hi (y : Int) (f : Nat) {n : Int} (h : n < dbm y (f + 2)) : n < dbm y (mthF y f n + 1) := by
  induction f with
  | zero => simpa [mthF] using h
  | succ f ih =>
    unfold mthF; split
    · have e : ((f + 1 : Nat) : Int) + 2 = (f : Int) + 2 + 1 := by omega
      rw [e] at h; exact h
    · exact ih (by omega)
/-- every day has its date -/
theorem date_of {n : Int} (h0 : 0 ≤ n) (h1 : n ≤ 1460969) : ∃ y m d : Int, IsD y m d ∧ numD y m d = n := by
  have a := yrF_bd 3999 n
  have b := yrF_lo 3999 h0
  have c := yrF_hi 3999 (n := n) (by rw [show ((3999 : Nat) : Int) + 2 = 4001 from rfl, dby_last]; omega)
  generalize yrF 3999 n = y at a b c
  have e := dby_succ a.1 (by omega)
  have a' := mthF_bd y 11 (n - dby y)
  have b' := mthF_lo y 11 (n := n - dby y) (by omega)
  have c' := mthF_hi y 11 (n := n - dby y) (by rw [show ((11 : Nat) : Int) + 2 = 13 from rfl, dbm_13]; omega)
  generalize mthF y 11 (n - dby y) = m at a' b' c'
  rw [dbm_succ y a'.1 (by omega)] at c'
  exact ⟨y, m, n - dby y - dbm y m + 1, ⟨a.1, by omega, a'.1, by omega, by omega, by omega⟩, by unfold numD; omega⟩
/-- digits -/
def dg (n : Int) : UInt8 := UInt8.ofNat (48 + n.toNat)
theorem dg_toNat {n : Int} (a : 0 ≤ n) (b : n ≤ 9) : ((dg n).toNat : Int) = 48 + n := by
  unfold dg; rw [UInt8.toNat_ofNat']; omega
def dateL (y m d : Int) : List UInt8 := [dg (y / 1000), dg (y / 100 % 10), dg (y / 10 % 10), dg (y % 10), 46, dg (m / 10), dg (m % 10), 46, dg (d / 10), dg (d % 10)]
def dateT (n : Int) : List UInt8 :=
  if 0 ≤ n ∧ n ≤ 1460969 then
    dateL (yrF 3999 n) (mthF (yrF 3999 n) 11 (n - dby (yrF 3999 n))) (n - dby (yrF 3999 n) - dbm (yrF 3999 n) (mthF (yrF 3999 n) 11 (n - dby (yrF 3999 n))) + 1)
  else []
theorem dateT_out {n : Int} (h : n < 0 ∨ 1460969 < n) : dateT n = [] := by unfold dateT; rw [if_neg (by omega)]
theorem dateT_of {y m d : Int} (h : IsD y m d) : dateT (numD y m d) = dateL y m d := by
  have hb := h.bd
  have a := yrF_bd 3999 (numD y m d)
  have b := yrF_lo 3999 hb.1
  have c := yrF_hi 3999 (n := numD y m d) (by rw [show ((3999 : Nat) : Int) + 2 = 4001 from rfl, dby_last]; omega)
  unfold dateT; rw [if_pos ⟨hb.1, hb.2.2.2⟩]
  generalize yrF 3999 (numD y m d) = y' at a b c
  have e := dby_succ a.1 (by omega)
  have a' := mthF_bd y' 11 (numD y m d - dby y')
  have b' := mthF_lo y' 11 (n := numD y m d - dby y') (by omega)
  have c' := mthF_hi y' 11 (n := numD y m d - dby y') (by rw [show ((11 : Nat) : Int) + 2 = 13 from rfl, dbm_13]; omega)
  generalize mthF y' 11 (numD y m d - dby y') = m' at a' b' c'
  rw [dbm_succ y' a'.1 (by omega)] at c'
  obtain ⟨e1, e2, e3⟩ := num_inj (y' := y') (m' := m') (d' := numD y m d - dby y' - dbm y' m' + 1) h ⟨a.1, by omega, a'.1, by omega, by omega, by omega⟩ (by unfold numD; omega)
  rw [← e1, ← e2]
  subst e1 e2; rw [← e3]
theorem dateL_len (y m d : Int) : (dateL y m d).length = 10 := rfl
theorem dateT_len (n : Int) : (dateT n).length ≤ 10 := by unfold dateT; split <;> simp [dateL]
def dg4 (y : Int) : List UInt8 := [dg (y / 1000), dg (y / 100 % 10), dg (y / 10 % 10), dg (y % 10)]
def dg2 (m : Int) : List UInt8 := [dg (m / 10), dg (m % 10)]
theorem dateL_parts (y m d : Int) : dateL y m d = dg4 y ++ [46] ++ dg2 m ++ [46] ++ dg2 d := rfl
/-- the value of a byte as a digit -/
def dvB (c : UInt8) : Int := (c.toNat : Int) - 48
def dcB (c : UInt8) : Bool := digI c.toNat
theorem dcB_bd {c : UInt8} (h : dcB c = true) : 0 ≤ dvB c ∧ dvB c ≤ 9 := by have := digI_bd h; unfold dvB; omega
theorem dg_dv {c : UInt8} (h : dcB c = true) : dg (dvB c) = c := by
  have b := dcB_bd h
  apply UInt8.toNat_inj.1
  have := dg_toNat b.1 b.2; unfold dvB at this ⊢; omega
theorem dc_dg {n : Int} (a : 0 ≤ n) (b : n ≤ 9) : dcB (dg n) = true := by unfold dcB; rw [dg_toNat a b]; exact digI_true (by omega) (by omega)
theorem dv_dg {n : Int} (a : 0 ≤ n) (b : n ≤ 9) : dvB (dg n) = n := by unfold dvB; rw [dg_toNat a b]; omega
/-- digits, read from the left -/
def rdv (l : List UInt8) : Int := l.foldl (fun a c => 10 * a + dvB c) 0
theorem rdv_snoc (l : List UInt8) (c : UInt8) : rdv (l ++ [c]) = 10 * rdv l + dvB c := by simp [rdv, List.foldl_append]
theorem rdv_bdA (l : List UInt8) : ∀ a : Int, 0 ≤ a → l.all dcB = true → 0 ≤ l.foldl (fun a c => 10 * a + dvB c) a ∧ l.foldl (fun a c => 10 * a + dvB c) a < (a + 1) * 10 ^ l.length := by
  induction l with
  | nil => intro a h _; simp; omega
  | cons c l ih =>
    intro a h hl
    rw [List.all_cons, Bool.and_eq_true] at hl
    have b := dcB_bd hl.1
    have i := ih (10 * a + dvB c) (by omega) hl.2
    refine ⟨i.1, Int.lt_of_lt_of_le i.2 ?_⟩
    rw [List.length_cons, Int.pow_succ]
    have e : (a + 1) * (10 ^ l.length * 10) = (10 * (a + 1)) * 10 ^ l.length := by
      rw [Int.mul_comm (10 ^ l.length) 10, ← Int.mul_assoc, Int.mul_comm (a + 1) 10]
    rw [e]
    exact Int.mul_le_mul_of_nonneg_right (by omega) (Int.pow_nonneg (by omega))
theorem rdv_bd (l : List UInt8) (h : l.all dcB = true) : 0 ≤ rdv l ∧ rdv l < 10 ^ l.length := by
  have := rdv_bdA l 0 (by omega) h
  simpa [rdv] using this
structure GoodD (l : List UInt8) : Prop where
  len : l.length = 10
  p4 : l.getD 4 0 = 46
  p7 : l.getD 7 0 = 46
  a : (l.take 4).all dcB = true
  b : ((l.drop 5).take 2).all dcB = true
  c : (l.drop 8).all dcB = true
instance (l : List UInt8) : Decidable (GoodD l) :=
  decidable_of_iff (l.length = 10 ∧ l.getD 4 0 = 46 ∧ l.getD 7 0 = 46 ∧ (l.take 4).all dcB = true ∧ ((l.drop 5).take 2).all dcB = true ∧ (l.drop 8).all dcB = true)
    ⟨fun ⟨a, b, c, d, e, f⟩ => ⟨a, b, c, d, e, f⟩, fun ⟨a, b, c, d, e, f⟩ => ⟨a, b, c, d, e, f⟩⟩
def yv (l : List UInt8) : Int := rdv (l.take 4)
def mv (l : List UInt8) : Int := rdv ((l.drop 5).take 2)
def dv (l : List UInt8) : Int := rdv (l.drop 8)
/-- the day of a date -/
def readD (l : List UInt8) : Int := if GoodD l then dayN (yv l) (mv l) (dv l) else -1
theorem ten {l : List UInt8} (h : l.length = 10) : ∃ a b c d e f g i j k, l = [a, b, c, d, e, f, g, i, j, k] := by
  match l, h with
  | [a, b, c, d, e, f, g, i, j, k], _ => exact ⟨a, b, c, d, e, f, g, i, j, k, rfl⟩
theorem good_dateL {y m d : Int} (h : 0 ≤ y) (h' : y ≤ 9999) (i : 0 ≤ m) (i' : m ≤ 99) (j : 0 ≤ d) (j' : d ≤ 99) : GoodD (dateL y m d) ∧ yv (dateL y m d) = y ∧ mv (dateL y m d) = m ∧ dv (dateL y m d) = d := by
  have a1 := dc_dg (n := y / 1000) (by omega) (by omega)
  have a2 := dc_dg (n := y / 100 % 10) (by omega) (by omega)
  have a3 := dc_dg (n := y / 10 % 10) (by omega) (by omega)
  have a4 := dc_dg (n := y % 10) (by omega) (by omega)
  have b1 := dc_dg (n := m / 10) (by omega) (by omega)
  have b2 := dc_dg (n := m % 10) (by omega) (by omega)
  have c1 := dc_dg (n := d / 10) (by omega) (by omega)
  have c2 := dc_dg (n := d % 10) (by omega) (by omega)
  refine ⟨⟨rfl, rfl, rfl, ?_, ?_, ?_⟩, ?_, ?_, ?_⟩
  · simp [dateL, a1, a2, a3, a4]
  · simp [dateL, b1, b2]
  · simp [dateL, c1, c2]
  · show 10 * (10 * (10 * (10 * 0 + dvB (dg (y / 1000))) + dvB (dg (y / 100 % 10))) + dvB (dg (y / 10 % 10))) + dvB (dg (y % 10)) = y
    rw [dv_dg (by omega) (by omega), dv_dg (by omega) (by omega), dv_dg (by omega) (by omega), dv_dg (by omega) (by omega)]; omega
  · show 10 * (10 * 0 + dvB (dg (m / 10))) + dvB (dg (m % 10)) = m
    rw [dv_dg (by omega) (by omega), dv_dg (by omega) (by omega)]; omega
  · show 10 * (10 * 0 + dvB (dg (d / 10))) + dvB (dg (d % 10)) = d
    rw [dv_dg (by omega) (by omega), dv_dg (by omega) (by omega)]; omega
theorem good_back {l : List UInt8} (h : GoodD l) : dateL (yv l) (mv l) (dv l) = l := by
  obtain ⟨hl, p4, p7, ha, hb, hc⟩ := h
  obtain ⟨a, b, c, d, e, f, g, i, j, k, rfl⟩ := ten hl
  simp only [List.getD_cons_succ, List.getD_cons_zero] at p4 p7
  simp only [List.take_succ_cons, List.take_zero, List.drop_succ_cons, List.drop_zero, List.all_cons, List.all_nil, Bool.and_true, Bool.and_eq_true] at ha hb hc
  subst p4 p7
  have A := dcB_bd ha.1; have B := dcB_bd ha.2.1; have C := dcB_bd ha.2.2.1; have D := dcB_bd ha.2.2.2
  have F := dcB_bd hb.1; have G := dcB_bd hb.2; have J := dcB_bd hc.1; have K := dcB_bd hc.2
  have ey : yv [a, b, c, d, 46, f, g, 46, j, k] = 10 * (10 * (10 * (10 * 0 + dvB a) + dvB b) + dvB c) + dvB d := rfl
  have em : mv [a, b, c, d, 46, f, g, 46, j, k] = 10 * (10 * 0 + dvB f) + dvB g := rfl
  have ed : dv [a, b, c, d, 46, f, g, 46, j, k] = 10 * (10 * 0 + dvB j) + dvB k := rfl
  rw [ey, em, ed]; unfold dateL
  rw [show (10 * (10 * (10 * (10 * 0 + dvB a) + dvB b) + dvB c) + dvB d) / 1000 = dvB a by omega, show (10 * (10 * (10 * (10 * 0 + dvB a) + dvB b) + dvB c) + dvB d) / 100 % 10 = dvB b by omega, show (10 * (10 * (10 * (10 * 0 + dvB a) + dvB b) + dvB c) + dvB d) / 10 % 10 = dvB c by omega, show (10 * (10 * (10 * (10 * 0 + dvB a) + dvB b) + dvB c) + dvB d) % 10 = dvB d by omega, show (10 * (10 * 0 + dvB f) + dvB g) / 10 = dvB f by omega, show (10 * (10 * 0 + dvB f) + dvB g) % 10 = dvB g by omega, show (10 * (10 * 0 + dvB j) + dvB k) / 10 = dvB j by omega, show (10 * (10 * 0 + dvB j) + dvB k) % 10 = dvB k by omega,
    dg_dv ha.1, dg_dv ha.2.1, dg_dv ha.2.2.1, dg_dv ha.2.2.2, dg_dv hb.1, dg_dv hb.2, dg_dv hc.1, dg_dv hc.2]
theorem isD_rng {y m d : Int} (h : IsD y m d) : 0 ≤ y ∧ y ≤ 9999 ∧ 0 ≤ m ∧ m ≤ 99 ∧ 0 ≤ d ∧ d ≤ 99 := by
  have := md12_bd y m; have := h.y1; have := h.y2; have := h.m1; have := h.m2; have := h.d1; have := h.d2; omega
theorem readD_date {y m d : Int} (h : IsD y m d) : readD (dateL y m d) = numD y m d := by
  obtain ⟨a1, a2, a3, a4, a5, a6⟩ := isD_rng h
  obtain ⟨g, e1, e2, e3⟩ := good_dateL a1 a2 a3 a4 a5 a6
  unfold readD; rw [if_pos g, e1, e2, e3, dayN_in h]
theorem readD_bad {l : List UInt8} (h : ¬ GoodD l) : readD l = -1 := by unfold readD; rw [if_neg h]
theorem readD_good {l : List UInt8} (h : GoodD l) : readD l = dayN (yv l) (mv l) (dv l) := by unfold readD; rw [if_pos h]
/-- either no date, or one -/
theorem readD_lo (l : List UInt8) : readD l = -1 ∨ ∃ y m d, IsD y m d ∧ l = dateL y m d ∧ readD l = numD y m d := by
  by_cases h : GoodD l
  · by_cases hd : 1 ≤ dv l ∧ dv l ≤ mdays (yv l) (mv l)
    · have hi := isD_of hd.1 hd.2
      exact .inr ⟨_, _, _, hi, (good_back h).symm, by rw [readD_good h, dayN_in hi]⟩
    · exact .inl (by rw [readD_good h, dayN_no (by omega)])
  · exact .inl (readD_bad h)
/-- the reference's scan -/
structure Scn where
  at' : Nat
  a : Int
  b : Int
  c : Int
def Scn.dot (s : Scn) : Scn := ⟨s.at' + 1, s.a, s.b, s.c⟩
def Scn.dig (s : Scn) (x : Int) : Scn := if s.at' = 0 then ⟨s.at', 10 * s.a + x, s.b, s.c⟩ else if s.at' = 1 then ⟨s.at', s.a, 10 * s.b + x, s.c⟩ else ⟨s.at', s.a, s.b, 10 * s.c + x⟩
def Scn.step (s : Scn) (c : UInt8) : Scn := if c = 46 ∧ s.at' < 2 then s.dot else s.dig (dvB c)
def scan (l : List UInt8) : Scn := l.foldl Scn.step ⟨0, 0, 0, 0⟩
theorem scan_snoc (l : List UInt8) (c : UInt8) : scan (l ++ [c]) = (scan l).step c := by simp [scan, List.foldl_append]
end Go.Proofs.Ytmlmedmopbhdjaa
