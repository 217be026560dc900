/-
  The verifier's own text: LeapI DateI DateTI RDateI RDateI2 ScanMath.
-/
import Derived.Test.YthniiknhbhoncaaRows
import Derived.Test.YthniiknhbhoncaaGa
import Derived.Laws.NewBlocks
import Derived.Test.YthniiknhbhoncaaGb
import Derived.WalkKit
import Derived.ProofKit
import Derived.Below
import Derived.Lib.Hide
import Derived.Outline
import Derived.BigQuiet
import Derived.Deep.QuietTactic
import Derived.Deep.Draws
import Derived.Laws.OwnMore
import Derived.Laws.Rows
import Derived.WalkSpells
import Derived.Deep.RegionWith
namespace Go.Proofs.Ythniiknhbhoncaa
open Go.RowKit
set_option linter.unusedVariables false
theorem leap_cases (y : Int) : (leapB y = false ∧ (y < 1 ∨ 4000 < y)) ∨ (1 ≤ y ∧ y ≤ 4000 ∧ leapB y = false ∧ ((y % 4 == 0) = false ∧ (y % 400 == 0) = false)) ∨ (1 ≤ y ∧ y ≤ 4000 ∧ leapB y = false ∧ ((y % 4 == 0) = true ∧ (y % 100 != 0) = false ∧ (y % 400 == 0) = false)) ∨ (1 ≤ y ∧ y ≤ 4000 ∧ leapB y = true ∧ ((y % 4 == 0) = true ∧ (y % 100 != 0) = true)) ∨ (1 ≤ y ∧ y ≤ 4000 ∧ leapB y = true ∧ ((y % 4 == 0) = true ∧ (y % 100 != 0) = false ∧ (y % 400 == 0) = true)) := by
  by_cases a : y < 1 ∨ 4000 < y
  · exact .inl ⟨by simp [leapB]; omega, a⟩
  · have a1 : 1 ≤ y := by omega
    have a2 : y ≤ 4000 := by omega
    by_cases b : y % 4 = 0
    · by_cases c : y % 100 = 0
      · by_cases d : y % 400 = 0
        · exact .inr (.inr (.inr (.inr ⟨a1, a2, by simp [leapB]; omega, by simp [b], by simp [c], by simp [d]⟩)))
        · exact .inr (.inr (.inl ⟨a1, a2, by simp [leapB]; omega, by simp [b], by simp [c], by simp [d]⟩))
      · exact .inr (.inr (.inr (.inl ⟨a1, a2, by simp [leapB]; omega, by simp [b], by simp [c]⟩)))
    · exact .inr (.inl ⟨a1, a2, by simp [leapB]; omega, by simp [b], by simp; omega⟩)
def dsum (y m d : Int) : List UInt8 := dg4 y ++ [46] ++ dg2 m ++ [46] ++ dg2 d
theorem date_cat (y m d : Int) : bs (dg4 y) ++ ⟨#[46]⟩ ++ bs (dg2 m) ++ ⟨#[46]⟩ ++ bs (dg2 d) = bs (dateL y m d) := by
  rw [dateL_parts, ← bs_append, ← bs_append, ← bs_append, ← bs_append]; rfl
theorem rdv_neg {l : List UInt8} {k : Nat} (h : k < l.length) (b : dcB l[k] = false) : l.all dcB = false := by
  rw [List.all_eq_false]; exact ⟨_, List.getElem_mem h, by simp [b]⟩
theorem pow10_le {L : Nat} (h : L ≤ 10) : (10 : Int) ^ L ≤ 10000000000 := by
  have h2 := Nat.pow_le_pow_right (n := 10) (by omega) h
  have e : ((10 ^ L : Nat) : Int) = (10 : Int) ^ L := by simp
  rw [← e]
  exact Int.ofNat_le.2 (Nat.le_trans h2 (by decide))
/-- digits, or -1 -/
def dval (l : List UInt8) : Int := if l.all dcB then rdv l else -1
theorem dval_t {l : List UInt8} (h : l.all dcB = true) : dval l = rdv l := by simp [dval, h]
theorem dval_f {l : List UInt8} (h : l.all dcB = false) : dval l = -1 := by simp [dval, h]
theorem isDigD_any (n : Int) (w : World) :
    Calls Try.prog 52 #[.int .u8 n] w fun e w' => e = .returned (.bool (digI n)) ∧ w = w' := by
  go_enter Try.func52, Try.ntmps52
  go_wp2
  all_goals (go_ret; exact ⟨ret_bool (by simp [digI]; omega), rfl⟩)
theorem ext_list (s : ByteArray) (a b : Nat) : (s.extract a b).data.toList = (s.data.toList.drop a).take (b - a) := by
  simp [ByteArray.data_extract, List.extract]
theorem dayN_y {y m d : Int} (h : y < 1) : dayN y m d = -1 := dayN_no (by rw [mdays_out (by omega)]; omega)
theorem dayN_m {y m d : Int} (h : m < 1) : dayN y m d = -1 := dayN_no (by rw [mdays_out (by omega)]; omega)
theorem dayN_d {y m d : Int} (h : d < 1) : dayN y m d = -1 := dayN_no (.inl h)
theorem readD_parts {l : List UInt8} (h : l.length = 10) (p4 : l.getD 4 0 = 46) (p7 : l.getD 7 0 = 46) : readD l = dayN (dval (l.take 4)) (dval ((l.drop 5).take 2)) (dval (l.drop 8)) := by
  rcases ha : (l.take 4).all dcB with _ | _
  · rw [readD_bad (fun g => by have := g.a; rw [ha] at this; cases this), dval_f ha, dayN_y (by omega)]
  · rcases hb : ((l.drop 5).take 2).all dcB with _ | _
    · rw [readD_bad (fun g => by have := g.b; rw [hb] at this; cases this), dval_f hb, dayN_m (by omega)]
    · rcases hc : (l.drop 8).all dcB with _ | _
      · rw [readD_bad (fun g => by have := g.c; rw [hc] at this; cases this), dval_f hc, dayN_d (by omega)]
      · rw [readD_good ⟨h, p4, p7, ha, hb, hc⟩, dval_t ha, dval_t hb, dval_t hc]; rfl
theorem getD_byte (s : ByteArray) (k : Nat) (h : k < s.size) : s.data.toList.getD k 0 = s[k] := by
  rw [List.getD_eq_getElem?_getD, List.getElem?_eq_getElem (by rw [blen]; exact h)]; rfl
theorem byte46 {c : UInt8} (h : ((c.toNat : Int) != 46) = true) : c ≠ 46 := by
  intro e; subst e; simp at h
theorem byte46' {c : UInt8} (h : ((c.toNat : Int) != 46) = false) : c = 46 := by
  have h2 : (c.toNat : Int) = 46 := by simpa using h
  exact UInt8.toNat_inj.1 (show c.toNat = 46 by omega)
theorem Scn.step_dot {s : Scn} {c : UInt8} (h : c = 46) (a : s.at' < 2) : s.step c = s.dot := by unfold Scn.step; rw [if_pos ⟨h, a⟩]
theorem Scn.step_dig {s : Scn} {c : UInt8} (h : dcB c = true) : s.step c = s.dig (dvB c) := by
  unfold Scn.step; rw [if_neg]
  rintro ⟨rfl, _⟩; cases h
theorem step_digit {s : Scn} {c : UInt8} (h : c ≠ 46) : s.step c = s.dig (dvB c) := by
  unfold Scn.step; rw [if_neg (fun e => h e.1)]
/-- all three are small -/
structure Scn.Bd (s : Scn) (k : Nat) : Prop where
  at2 : s.at' ≤ 2
  a0 : 0 ≤ s.a
  a1 : s.a < 10 ^ k
  b0 : 0 ≤ s.b
  b1 : s.b < 10 ^ k
  c0 : 0 ≤ s.c
  c1 : s.c < 10 ^ k
theorem p10 (k : Nat) : (10 : Int) ^ k ≤ 10 ^ (k + 1) := by
  have h : (0 : Int) ≤ 10 ^ k := Int.pow_nonneg (by omega)
  rw [Int.pow_succ]; omega
theorem Scn.Bd.dot {s : Scn} {k : Nat} (h : s.Bd k) (a : s.at' < 2) : s.dot.Bd (k + 1) := by
  have := p10 k
  exact ⟨by show s.at' + 1 ≤ 2; omega, h.a0, by have := h.a1; show s.a < _; omega, h.b0, by have := h.b1; show s.b < _; omega, h.c0, by have := h.c1; show s.c < _; omega⟩
theorem Scn.Bd.dig {s : Scn} {k : Nat} (h : s.Bd k) {x : Int} (a : 0 ≤ x) (b : x ≤ 9) : (s.dig x).Bd (k + 1) := by
  have hp := p10 k
  have he : (10 : Int) ^ (k + 1) = 10 ^ k * 10 := Int.pow_succ _ _
  obtain ⟨h1, h2, h3, h4, h5, h6, h7⟩ := h
  unfold Scn.dig; split
  · exact ⟨h1, by show 0 ≤ 10 * s.a + x; omega, by show 10 * s.a + x < _; omega, h4, by show s.b < _; omega, h6, by show s.c < _; omega⟩
  · split
    · exact ⟨h1, h2, by show s.a < _; omega, by show 0 ≤ 10 * s.b + x; omega, by show 10 * s.b + x < _; omega, h6, by show s.c < _; omega⟩
    · exact ⟨h1, h2, by show s.a < _; omega, h4, by show s.b < _; omega, by show 0 ≤ 10 * s.c + x; omega, by show 10 * s.c + x < _; omega⟩
theorem dc46 {c : UInt8} (h : dcB c = true) : c ≠ 46 := by rintro rfl; cases h
/-- what the scan of a date tells -/
theorem scan_good {l : List UInt8} (h : GoodD l) : scan l = ⟨2, yv l, mv l, dv l⟩ := by
  obtain ⟨hl, p4, p7, ha, hb, hc⟩ := h
  obtain ⟨a, b, c, d, e, f, g, i, j, k, rfl⟩ := ten hl
  simp only [List.getD_cons_succ, List.getD_cons_zero] at p4 p7
  simp only [List.take_succ_cons, List.take_zero, List.drop_succ_cons, List.drop_zero, List.all_cons, List.all_nil, Bool.and_true, Bool.and_eq_true] at ha hb hc
  subst p4 p7
  show (((((((((Scn.step (⟨0, 0, 0, 0⟩ : Scn) a).step b).step c).step d).step 46).step f).step g).step 46).step j).step k = _
  rw [Scn.step_dig ha.1, Scn.step_dig ha.2.1, Scn.step_dig ha.2.2.1, Scn.step_dig ha.2.2.2]
  rw [Scn.step_dot (s := Scn.dig (Scn.dig (Scn.dig (Scn.dig ⟨0, 0, 0, 0⟩ (dvB a)) (dvB b)) (dvB c)) (dvB d)) (c := 46) rfl (by show 0 < 2; omega), Scn.step_dig hb.1, Scn.step_dig hb.2]
  rw [Scn.step_dot (c := 46) rfl (by show 1 < 2; omega), Scn.step_dig hc.1, Scn.step_dig hc.2]
  rfl
theorem scan_at {l : List UInt8} (h : GoodD l) (k : Nat) (hk : k < 10) (hd : dcB (l.getD k 0) = false) : l.getD k 0 = 46 ∧ (scan (l.take k)).at' < 2 := by
  obtain ⟨hl, p4, p7, ha, hb, hc⟩ := h
  obtain ⟨a, b, c, d, e, f, g, i, j, m, rfl⟩ := ten hl
  simp only [List.getD_cons_succ, List.getD_cons_zero] at p4 p7
  simp only [List.take_succ_cons, List.take_zero, List.drop_succ_cons, List.drop_zero, List.all_cons, List.all_nil, Bool.and_true, Bool.and_eq_true] at ha hb hc
  subst p4 p7
  obtain rfl | rfl | rfl | rfl | rfl | rfl | rfl | rfl | rfl | rfl : k = 0 ∨ k = 1 ∨ k = 2 ∨ k = 3 ∨ k = 4 ∨ k = 5 ∨ k = 6 ∨ k = 7 ∨ k = 8 ∨ k = 9 := by omega
  · rw [show ([a, b, c, d, 46, f, g, 46, j, m].getD 0 0) = a from rfl, ha.1] at hd; cases hd
  · rw [show ([a, b, c, d, 46, f, g, 46, j, m].getD 1 0) = b from rfl, ha.2.1] at hd; cases hd
  · rw [show ([a, b, c, d, 46, f, g, 46, j, m].getD 2 0) = c from rfl, ha.2.2.1] at hd; cases hd
  · rw [show ([a, b, c, d, 46, f, g, 46, j, m].getD 3 0) = d from rfl, ha.2.2.2] at hd; cases hd
  · refine ⟨rfl, ?_⟩
    show ((((Scn.step (⟨0, 0, 0, 0⟩ : Scn) a).step b).step c).step d).at' < 2
    rw [Scn.step_dig ha.1, Scn.step_dig ha.2.1, Scn.step_dig ha.2.2.1, Scn.step_dig ha.2.2.2]; show 0 < 2; omega
  · rw [show ([a, b, c, d, 46, f, g, 46, j, m].getD 5 0) = f from rfl, hb.1] at hd; cases hd
  · rw [show ([a, b, c, d, 46, f, g, 46, j, m].getD 6 0) = g from rfl, hb.2] at hd; cases hd
  · refine ⟨rfl, ?_⟩
    show (((((((Scn.step (⟨0, 0, 0, 0⟩ : Scn) a).step b).step c).step d).step 46).step f).step g).at' < 2
    rw [Scn.step_dig ha.1, Scn.step_dig ha.2.1, Scn.step_dig ha.2.2.1, Scn.step_dig ha.2.2.2]
    rw [Scn.step_dot (c := 46) rfl (by show 0 < 2; omega), Scn.step_dig hb.1, Scn.step_dig hb.2]; show 1 < 2; omega
  · rw [show ([a, b, c, d, 46, f, g, 46, j, m].getD 8 0) = j from rfl, hc.1] at hd; cases hd
  · rw [show ([a, b, c, d, 46, f, g, 46, j, m].getD 9 0) = m from rfl, hc.2] at hd; cases hd
/-- the four ends of the reference's reading -/
theorem readD_stop {l : List UInt8} (k : Nat) (hk : k < 10) (hd : dcB (l.getD k 0) = false) (h : l.getD k 0 ≠ 46 ∨ 2 ≤ (scan (l.take k)).at') : readD l = -1 := by
  refine readD_bad (fun g => ?_)
  have := scan_at g k hk hd
  rcases h with h | h
  · exact h this.1
  · omega
theorem readD_neg {l : List UInt8} {t : Nat} {a b c : Int} (h : scan l = ⟨t, a, b, c⟩) (hn : dayN a b c < 0) : readD l = -1 := by
  by_cases g : GoodD l
  · rw [scan_good g] at h
    injection h with _ h1 h2 h3
    rw [readD_good g, h1, h2, h3]
    by_cases q : 1 ≤ c ∧ c ≤ mdays a b
    · have hi := isD_of q.1 q.2
      rw [dayN_in hi] at hn; have := hi.bd; omega
    · exact dayN_no (by omega)
  · exact readD_bad g
theorem dayN_pos {a b c : Int} (h : ¬ dayN a b c < 0) : IsD a b c := by
  by_cases q : 1 ≤ c ∧ c ≤ mdays a b
  · exact isD_of q.1 q.2
  · rw [dayN_no (by omega)] at h; omega
theorem readD_same {l : List UInt8} {a b c : Int} (hn : ¬ dayN a b c < 0) (e : dateT (dayN a b c) = l) : readD l = dayN a b c := by
  have hi := dayN_pos hn
  rw [dayN_in hi, dateT_of hi] at e
  rw [← e, readD_date hi, dayN_in hi]
theorem readD_diff {l : List UInt8} {t : Nat} {a b c : Int} (h : scan l = ⟨t, a, b, c⟩) (hn : ¬ dayN a b c < 0) (e : ¬ dateT (dayN a b c) = l) : readD l = -1 := by
  refine readD_bad (fun g => e ?_)
  rw [scan_good g] at h
  injection h with _ h1 h2 h3
  have hi := dayN_pos hn
  rw [dayN_in hi, dateT_of hi, ← h1, ← h2, ← h3, good_back g]
end Go.Proofs.Ythniiknhbhoncaa
