/-
  The verifier's own text: LeapI MonthI DayI DateI DateTI RDateI RDateI2 ScanMath.
-/
import Derived.Test.YtbljpbmpfmnemaaRows
import Derived.Test.YtbljpbmpfmnemaaGa
import Derived.Laws.NewBlocks
import Derived.Test.YtbljpbmpfmnemaaGb
import Derived.WalkKit
import Derived.ProofKit
import Derived.Below
import Derived.Lib.Hide
import Derived.Outline
import Derived.BigQuiet
import Derived.Deep.QuietTactic
import Derived.Deep.Draws
import Derived.Laws.OwnMore
import Derived.Laws.Rows
import Derived.WalkSpells
import Derived.Deep.RegionWith
namespace Go.Proofs.Ytbljpbmpfmnemaa
open Go.RowKit
set_option linter.unusedVariables false
theorem leap_cases (y : Int) : (leapB y = false ∧ (y < 1 ∨ 4000 < y)) ∨ (1 ≤ y ∧ y ≤ 4000 ∧ leapB y = false ∧ ((y % 4 == 0) = false ∧ (y % 400 == 0) = false)) ∨ (1 ≤ y ∧ y ≤ 4000 ∧ leapB y = false ∧ ((y % 4 == 0) = true ∧ (y % 100 != 0) = false ∧ (y % 400 == 0) = false)) ∨ (1 ≤ y ∧ y ≤ 4000 ∧ leapB y = true ∧ ((y % 4 == 0) = true ∧ (y % 100 != 0) = true)) ∨ (1 ≤ y ∧ y ≤ 4000 ∧ leapB y = true ∧ ((y % 4 == 0) = true ∧ (y % 100 != 0) = false ∧ (y % 400 == 0) = true)) := by
  by_cases a : y < 1 ∨ 4000 < y
  · exact .inl ⟨by simp [leapB]; omega, a⟩
  · have a1 : 1 ≤ y := by omega
    have a2 : y ≤ 4000 := by omega
    by_cases b : y % 4 = 0
    · by_cases c : y % 100 = 0
      · by_cases d : y % 400 = 0
        · exact .inr (.inr (.inr (.inr ⟨a1, a2, by simp [leapB]; omega, by simp [b], by simp [c], by simp [d]⟩)))
        · exact .inr (.inr (.inl ⟨a1, a2, by simp [leapB]; omega, by simp [b], by simp [c], by simp [d]⟩))
      · exact .inr (.inr (.inr (.inl ⟨a1, a2, by simp [leapB]; omega, by simp [b], by simp [c]⟩)))
    · exact .inr (.inl ⟨a1, a2, by simp [leapB]; omega, by simp [b], by simp; omega⟩)
theorem leapI_any (y : Int) (w : World) :
    Calls Try.prog 83 #[.int .i64 y] w fun e w' => e = .returned (.bool (leapB y)) ∧ w = w' := by
  obtain ⟨l, h⟩ | ⟨a, b, l, c, d⟩ | ⟨a, b, l, c, d, f⟩ | ⟨a, b, l, c, d⟩ | ⟨a, b, l, c, d, f⟩ := leap_cases y
  · have hr := Lib.hid l
    clear l
    rcases h with h | h
    all_goals
      go_enter Try.func83, Try.ntmps83
      go_wp2
      go_ret
      exact ⟨ret_bool hr.out.symm, rfl⟩
  all_goals
    have hr := Lib.hid l
    clear l
    go_enter Try.func83, Try.ntmps83
    go_wp2
    go_ret
    exact ⟨ret_bool hr.out.symm, rfl⟩
theorem feb_any (y : Int) (w : World) :
    Calls Try.prog 81 #[.int .i64 y] w fun e w' => e = .returned (.int .i64 (28 + lpI y)) ∧ w = w' := by
  rcases h : leapB y with _ | _
  · have hr := Lib.hid (lpI_f h)
    have HL := Lib.hid h
    clear h
    go_enter Try.func81, Try.ntmps81
    go_wp2_with (go_at_call 83; refine (leapI_any _ _).mono ?_; rintro e w' ⟨rfl, rfl⟩; rw [HL.out])
    go_ret
    exact ⟨ret_int (by rw [hr.out]; rfl), rfl⟩
  · have hr := Lib.hid (lpI_t h)
    have HL := Lib.hid h
    clear h
    go_enter Try.func81, Try.ntmps81
    go_wp2_with (go_at_call 83; refine (leapI_any _ _).mono ?_; rintro e w' ⟨rfl, rfl⟩; rw [HL.out])
    go_ret
    exact ⟨ret_int (by rw [hr.out]; rfl), rfl⟩
theorem monthI_out (y m : Int) (w : World) (h : y < 1 ∨ 4000 < y) :
    Calls Try.prog 79 #[.int .i64 y, .int .i64 m] w fun e w' => e = .returned (.int .i64 (mdays y m)) ∧ w = w' := by
  have hr := Lib.hid (mdays_out (y := y) (m := m) (by omega))
  rcases h with h | h
  all_goals
    go_enter Try.func79, Try.ntmps79
    go_wp2
    go_ret
    exact ⟨ret_int hr.out.symm, rfl⟩
theorem monthI_bad (y m : Int) (w : World) (a : 1 ≤ y) (b : y ≤ 4000) (h : m < 1 ∨ 12 < m) :
    Calls Try.prog 79 #[.int .i64 y, .int .i64 m] w fun e w' => e = .returned (.int .i64 (mdays y m)) ∧ w = w' := by
  have hr := Lib.hid (mdays_out (y := y) (m := m) (by omega))
  have m1 : (m == 1) = false := by simp; omega
  have m2 : (m == 2) = false := by simp; omega
  have m3 : (m == 3) = false := by simp; omega
  have m4 : (m == 4) = false := by simp; omega
  have m5 : (m == 5) = false := by simp; omega
  have m6 : (m == 6) = false := by simp; omega
  have m7 : (m == 7) = false := by simp; omega
  have m8 : (m == 8) = false := by simp; omega
  have m9 : (m == 9) = false := by simp; omega
  have m10 : (m == 10) = false := by simp; omega
  have m11 : (m == 11) = false := by simp; omega
  have m12 : (m == 12) = false := by simp; omega
  clear h
  go_enter Try.func79, Try.ntmps79
  go_wp2
  go_ret
  exact ⟨ret_int hr.out.symm, rfl⟩
set_option maxRecDepth 100000 in
set_option maxHeartbeats 800000 in
theorem monthI_in (y m : Int) (w : World) (a : 1 ≤ y) (b : y ≤ 4000) (c : 1 ≤ m) (d : m ≤ 12) :
    Calls Try.prog 79 #[.int .i64 y, .int .i64 m] w fun e w' => e = .returned (.int .i64 (mdays y m)) ∧ w = w' := by
  have hr := Lib.hid (mdays_in a b c d)
  obtain rfl | rfl | rfl | rfl | rfl | rfl | rfl | rfl | rfl | rfl | rfl | rfl := m12 c d
  all_goals
    clear c d
    go_enter Try.func79, Try.ntmps79
    go_wp2_with (go_at_call 81; refine (feb_any _ _).mono ?_; rintro e w' ⟨rfl, rfl⟩)
    go_ret
    exact ⟨ret_int (by rw [hr.out]; rfl), rfl⟩
theorem monthI_any (y m : Int) (w : World) :
    Calls Try.prog 79 #[.int .i64 y, .int .i64 m] w fun e w' => e = .returned (.int .i64 (mdays y m)) ∧ w = w' := by
  by_cases h : y < 1 ∨ 4000 < y
  · exact monthI_out y m w h
  · by_cases h2 : m < 1 ∨ 12 < m
    · exact monthI_bad y m w (by omega) (by omega) h2
    · exact monthI_in y m w (by omega) (by omega) (by omega) (by omega)
theorem dby_any (y : Int) (w : World) (a : 1 ≤ y) (b : y ≤ 4001) :
    Calls Try.prog 72 #[.int .i64 y] w fun e w' => e = .returned (.int .i64 (dby y)) ∧ w = w' := by
  have hr : Hid (dby y = (y - 1) * 365 + (y - 1) / 4 - (y - 1) / 100 + (y - 1) / 400) := Lib.hid (by unfold dby; omega)
  go_enter Try.func72, Try.ntmps72
  go_wp2
  go_ret
  exact ⟨ret_int hr.out.symm, rfl⟩
theorem dbm_any (y m : Int) (w : World) (a : 1 ≤ y) (b : y ≤ 4000) (c : 1 ≤ m) (d : m ≤ 12) :
    Calls Try.prog 75 #[.int .i64 y, .int .i64 m] w fun e w' => e = .returned (.int .i64 (dbm y m)) ∧ w = w' := by
  have e1 := Lib.hid (dbm_one y)
  go_enter Try.func75, Try.ntmps75
  go_wp2
  go_loop [5, 6] (fun t i => ∃ k : Int, 1 ≤ k ∧ k ≤ m ∧ i = .int .i64 k ∧ t = .int .i64 (dbm y k)) (fun _ i => (m - intOf i).toNat)
  case atStart => exact ⟨1, by omega, by omega, rfl, by rw [e1.out]⟩
  case round =>
    obtain ⟨k, hk1, hk2, rfl, rfl⟩ := hrel
    by_cases hlt : k < m
    · have hs := Lib.hid (dbm_succ y hk1 (by omega))
      have hm := Lib.hid (mdays_in a b hk1 (by omega : k ≤ 12))
      have b1 := dbm_bd y hk1 (by omega)
      have b2 := mdays_bd y k
      obtain ⟨b11, b12⟩ := b1
      obtain ⟨b21, b22⟩ := b2
      go_wp2_with (go_at_call 79; refine (monthI_any _ _ _).mono ?_; rintro e w' ⟨rfl, rfl⟩)
      go_round
      case rel => exact ⟨k + 1, by omega, by omega, rfl, by rw [hs.out, hm.out]⟩
      case measure => simp [intOf]; omega
    · have e : k = m := by omega
      subst e
      go_wp2
      go_ret
      exact ⟨rfl, rfl⟩
def dsum (y m d : Int) : List UInt8 := dg4 y ++ [46] ++ dg2 m ++ [46] ++ dg2 d
theorem yod_any (y m d : Int) (w : World) (h : IsD y m d) :
    Calls Try.prog 73 #[.int .i64 (numD y m d)] w fun e w' => e = .returned (.int .i64 y) ∧ w = w' := by
  have hb := h.bd
  have y1 := h.y1
  have y2 := h.y2
  have hd := Lib.hid (show dby y ≤ numD y m d ∧ numD y m d < dby (y + 1) from ⟨hb.2.2.1, hb.2.1⟩)
  obtain ⟨n, hn⟩ : ∃ n, numD y m d = n := ⟨_, rfl⟩
  rw [hn] at hb hd ⊢
  obtain ⟨b1, _, _, b4⟩ := hb
  have g : Hid (∀ k : Int, 1 ≤ k → k ≤ 4000 → dby k ≤ n → k ≤ y) := Lib.hid (fun k a b c => by
    rcases Int.lt_or_le y k with l | l
    · have := dby_mono (a := y + 1) (b := k) (by omega) (by omega); have := hd.out; omega
    · exact l)
  have g0 : Hid (dby (n / 366 + 1) ≤ n) := Lib.hid (by unfold dby; omega)
  clear hn h
  go_enter Try.func73, Try.ntmps73
  go_wp2
  go_loop [3] (fun t => ∃ k : Int, 1 ≤ k ∧ k ≤ 4000 ∧ Hid (dby k ≤ n) ∧ t = .int .i64 k) (fun t => (4000 - intOf t).toNat)
  case atStart => exact ⟨n / 366 + 1, by omega, by omega, g0, rfl⟩
  case round =>
    obtain ⟨k, hk1, hk2, hk3, rfl⟩ := hrel
    have ky := g.out k hk1 hk2 hk3.out
    by_cases hlt : k < 4000
    · have q1 : decide (k < 4000) = true := decide_eq_true hlt
      by_cases hle : dby (k + 1) ≤ n
      · have hle' := Lib.hid hle
        go_wp2_with (go_at_call 72; refine (dby_any _ _ (by omega) (by omega)).mono ?_; rintro e w' ⟨rfl, rfl⟩)
        go_round
        case rel => exact ⟨k + 1, by omega, by omega, hle', rfl⟩
        case measure => simp [intOf]; omega
      · have e : Hid (k = y) := Lib.hid (by
          rcases Int.lt_or_le k y with l | l
          · have := dby_mono (a := k + 1) (b := y) (by omega) (by omega); have := hd.out; omega
          · omega)
        have hle' : decide (dby (k + 1) ≤ n) = false := decide_eq_false hle
        clear hle
        go_wp2_with (go_at_call 72; refine (dby_any _ _ (by omega) (by omega)).mono ?_; rintro e w' ⟨rfl, rfl⟩)
        go_ret
        exact ⟨ret_int e.out, rfl⟩
    · have e : Hid (k = y) := Lib.hid (by omega)
      have q1 : decide (k < 4000) = false := decide_eq_false hlt
      go_wp2
      go_ret
      exact ⟨ret_int e.out, rfl⟩
theorem mod_any (y m d : Int) (w : World) (h : IsD y m d) :
    Calls Try.prog 74 #[.int .i64 y, .int .i64 (dbm y m + d - 1)] w fun e w' => e = .returned (.int .i64 m) ∧ w = w' := by
  obtain ⟨y1, y2, m1, m2, d1, d2⟩ := h
  have hd : Hid (dbm y m ≤ dbm y m + d - 1 ∧ dbm y m + d - 1 < dbm y (m + 1)) := Lib.hid ⟨by omega, by rw [dbm_succ y m1 m2]; omega⟩
  obtain ⟨n, hn⟩ : ∃ n, dbm y m + d - 1 = n := ⟨_, rfl⟩
  rw [hn] at hd ⊢
  have g : Hid (∀ k : Int, 1 ≤ k → k ≤ 12 → dbm y k ≤ n → k ≤ m) := Lib.hid (fun k a b c => by
    rcases Int.lt_or_le m k with l | l
    · have := dbm_mono y (m := m + 1) (k := k) (by omega) (by omega) (by omega); have := hd.out; omega
    · exact l)
  have g0 : Hid (dbm y 1 ≤ n) := Lib.hid (by rw [dbm_one]; have := dbm_bd y m1 (by omega); omega)
  clear hn
  go_enter Try.func74, Try.ntmps74
  go_wp2
  go_loop [5] (fun t => ∃ k : Int, 1 ≤ k ∧ k ≤ 12 ∧ Hid (dbm y k ≤ n) ∧ t = .int .i64 k) (fun t => (12 - intOf t).toNat)
  case atStart => exact ⟨1, by omega, by omega, g0, rfl⟩
  case round =>
    obtain ⟨k, hk1, hk2, hk3, rfl⟩ := hrel
    have ky := g.out k hk1 hk2 hk3.out
    by_cases hlt : k < 12
    · have q1 : decide (k < 12) = true := decide_eq_true hlt
      by_cases hle : dbm y (k + 1) ≤ n
      · have hle' := Lib.hid hle
        go_wp2_with (go_at_call 75; refine (dbm_any _ _ _ (by omega) (by omega) (by omega) (by omega)).mono ?_; rintro e w' ⟨rfl, rfl⟩)
        go_round
        case rel => exact ⟨k + 1, by omega, by omega, hle', rfl⟩
        case measure => simp [intOf]; omega
      · have e : Hid (k = m) := Lib.hid (by
          rcases Int.lt_or_le k m with l | l
          · have := dbm_mono y (m := k + 1) (k := m) (by omega) (by omega) (by omega); have := hd.out; omega
          · omega)
        have hle' : decide (dbm y (k + 1) ≤ n) = false := decide_eq_false hle
        clear hle
        go_wp2_with (go_at_call 75; refine (dbm_any _ _ _ (by omega) (by omega) (by omega) (by omega)).mono ?_; rintro e w' ⟨rfl, rfl⟩)
        go_ret
        exact ⟨ret_int e.out, rfl⟩
    · have e : Hid (k = m) := Lib.hid (by omega)
      have q1 : decide (k < 12) = false := decide_eq_false hlt
      go_wp2
      go_ret
      exact ⟨ret_int e.out, rfl⟩
theorem dateI_out (n : Int) (w : World) (h : n < 0 ∨ 1460969 < n) :
    Calls Try.prog 62 #[.int .i64 n] w (GotStr (dateT n) w) := by
  have hr := Lib.hid (dateT_out h)
  have hl := Lib.hid dby_last
  have t : decide (n < 0) = true ∨ (decide (n < 0) = false ∧ decide (1460970 ≤ n) = true) := by
    rcases h with h | h
    · exact .inl (decide_eq_true h)
    · exact .inr ⟨decide_eq_false (by omega), decide_eq_true (by omega)⟩
  clear h
  rcases t with t | ⟨t, t2⟩
  all_goals
    go_enter Try.func62, Try.ntmps62
    go_wp2_with (go_at_call 72; refine (dby_any 4001 _ (by omega) (by omega)).mono ?_; rintro e w' ⟨rfl, rfl⟩; rw [hl.out])
    go_ret
    exact ⟨by rw [hr.out]; rfl, Below.refl _ _⟩
theorem date_cat (y m d : Int) : bs (dg4 y) ++ ⟨#[46]⟩ ++ bs (dg2 m) ++ ⟨#[46]⟩ ++ bs (dg2 d) = bs (dateL y m d) := by
  rw [dateL_parts, ← bs_append, ← bs_append, ← bs_append, ← bs_append]; rfl
theorem dateI_in (y m d : Int) (w : World) (h : IsD y m d) :
    Calls Try.prog 62 #[.int .i64 (numD y m d)] w (GotStr (dateT (numD y m d)) w) := by
  have hr := Lib.hid (dateT_of h)
  have hl := Lib.hid dby_last
  have hy := yod_any y m d
  have hm := mod_any y m d
  obtain ⟨b1, b2, b3, b4⟩ := h.bd
  obtain ⟨r1, r2, r3, r4, r5, r6⟩ := isD_rng h
  have y1 := h.y1
  have y2 := h.y2
  have m1 := h.m1
  have m2 := h.m2
  have d1 := h.d1
  have e1 : Hid (numD y m d - dby y = dbm y m + d - 1) := Lib.hid (by unfold numD; omega)
  have e2 : Hid (dbm y m + d - 1 - dbm y m + 1 = d) := Lib.hid (by omega)
  have a1 := dby_bd y1 (by omega)
  have a2 := dbm_bd y m1 (by omega)
  obtain ⟨a11, a12⟩ := a1
  obtain ⟨a21, a22⟩ := a2
  clear b2
  go_enter Try.func62, Try.ntmps62
  go_wp2_with fail
  refine (dby_any 4001 _ (by omega) (by omega)).mono ?_
  rintro e w' ⟨rfl, rfl⟩
  rw [hl.out]
  go_wp2_with fail
  refine (hy _ h).mono ?_
  rintro e w' ⟨rfl, rfl⟩
  go_wp2_with fail
  refine (dby_any _ _ y1 (by omega)).mono ?_
  rintro e w' ⟨rfl, rfl⟩
  go_wp2_with fail
  rw [e1.out]
  refine (hm _ h).mono ?_
  rintro e w' ⟨rfl, rfl⟩
  go_wp2_with fail
  refine (dbm_any _ _ _ y1 y2 m1 (by omega)).mono ?_
  rintro e w' ⟨rfl, rfl⟩
  go_wp2_with fail
  refine (dig4_any _ _ r1 r2).mono ?_
  rintro e w1 ⟨rfl, hb1⟩
  have happ := bs_append
  go_wp2_with fail
  refine (dig2_any _ _ r3 r4).mono ?_
  rintro e w2 ⟨rfl, hb2⟩
  go_wp2_with fail
  rw [e2.out]
  refine (dig2_any _ _ r5 r6).mono ?_
  rintro e w3 ⟨rfl, hb3⟩
  have hb := Lib.hid (below_trans (below_trans hb1 hb2) hb3)
  go_wp2_with fail
  go_ret
  refine ⟨?_, hb.out⟩
  rw [hr.out, ← date_cat y m d]
  rfl
theorem dateI_any (n : Int) (w : World) :
    Calls Try.prog 62 #[.int .i64 n] w (GotStr (dateT n) w) := by
  by_cases h : n < 0 ∨ 1460969 < n
  · exact dateI_out n w h
  · obtain ⟨y, m, d, hd, rfl⟩ := date_of (n := n) (by omega) (by omega)
    exact dateI_in y m d w hd
theorem rdv_neg {l : List UInt8} {k : Nat} (h : k < l.length) (b : dcB l[k] = false) : l.all dcB = false := by
  rw [List.all_eq_false]; exact ⟨_, List.getElem_mem h, by simp [b]⟩
theorem pow10_le {L : Nat} (h : L ≤ 10) : (10 : Int) ^ L ≤ 10000000000 := by
  have h2 := Nat.pow_le_pow_right (n := 10) (by omega) h
  have e : ((10 ^ L : Nat) : Int) = (10 : Int) ^ L := by simp
  rw [← e]
  exact Int.ofNat_le.2 (Nat.le_trans h2 (by decide))
/-- digits, or -1 -/
def dval (l : List UInt8) : Int := if l.all dcB then rdv l else -1
theorem dval_t {l : List UInt8} (h : l.all dcB = true) : dval l = rdv l := by simp [dval, h]
theorem dval_f {l : List UInt8} (h : l.all dcB = false) : dval l = -1 := by simp [dval, h]
theorem isDigD_any (n : Int) (w : World) :
    Calls Try.prog 63 #[.int .u8 n] w fun e w' => e = .returned (.bool (digI n)) ∧ w = w' := by
  go_enter Try.func63, Try.ntmps63
  go_wp2
  all_goals (go_ret; exact ⟨ret_bool (by simp [digI]; omega), rfl⟩)
theorem ext_list (s : ByteArray) (a b : Nat) : (s.extract a b).data.toList = (s.data.toList.drop a).take (b - a) := by
  simp [ByteArray.data_extract, List.extract]
theorem dayN_y {y m d : Int} (h : y < 1) : dayN y m d = -1 := dayN_no (by rw [mdays_out (by omega)]; omega)
theorem dayN_m {y m d : Int} (h : m < 1) : dayN y m d = -1 := dayN_no (by rw [mdays_out (by omega)]; omega)
theorem dayN_d {y m d : Int} (h : d < 1) : dayN y m d = -1 := dayN_no (.inl h)
theorem readD_parts {l : List UInt8} (h : l.length = 10) (p4 : l.getD 4 0 = 46) (p7 : l.getD 7 0 = 46) : readD l = dayN (dval (l.take 4)) (dval ((l.drop 5).take 2)) (dval (l.drop 8)) := by
  rcases ha : (l.take 4).all dcB with _ | _
  · rw [readD_bad (fun g => by have := g.a; rw [ha] at this; cases this), dval_f ha, dayN_y (by omega)]
  · rcases hb : ((l.drop 5).take 2).all dcB with _ | _
    · rw [readD_bad (fun g => by have := g.b; rw [hb] at this; cases this), dval_f hb, dayN_m (by omega)]
    · rcases hc : (l.drop 8).all dcB with _ | _
      · rw [readD_bad (fun g => by have := g.c; rw [hc] at this; cases this), dval_f hc, dayN_d (by omega)]
      · rw [readD_good ⟨h, p4, p7, ha, hb, hc⟩, dval_t ha, dval_t hb, dval_t hc]; rfl
theorem getD_byte (s : ByteArray) (k : Nat) (h : k < s.size) : s.data.toList.getD k 0 = s[k] := by
  rw [List.getD_eq_getElem?_getD, List.getElem?_eq_getElem (by rw [blen]; exact h)]; rfl
theorem byte46 {c : UInt8} (h : ((c.toNat : Int) != 46) = true) : c ≠ 46 := by
  intro e; subst e; simp at h
theorem byte46' {c : UInt8} (h : ((c.toNat : Int) != 46) = false) : c = 46 := by
  have h2 : (c.toNat : Int) = 46 := by simpa using h
  exact UInt8.toNat_inj.1 (show c.toNat = 46 by omega)
theorem Scn.step_dot {s : Scn} {c : UInt8} (h : c = 46) (a : s.at' < 2) : s.step c = s.dot := by unfold Scn.step; rw [if_pos ⟨h, a⟩]
theorem Scn.step_dig {s : Scn} {c : UInt8} (h : dcB c = true) : s.step c = s.dig (dvB c) := by
  unfold Scn.step; rw [if_neg]
  rintro ⟨rfl, _⟩; cases h
theorem step_digit {s : Scn} {c : UInt8} (h : c ≠ 46) : s.step c = s.dig (dvB c) := by
  unfold Scn.step; rw [if_neg (fun e => h e.1)]
/-- all three are small -/
structure Scn.Bd (s : Scn) (k : Nat) : Prop where
  at2 : s.at' ≤ 2
  a0 : 0 ≤ s.a
  a1 : s.a < 10 ^ k
  b0 : 0 ≤ s.b
  b1 : s.b < 10 ^ k
  c0 : 0 ≤ s.c
  c1 : s.c < 10 ^ k
theorem p10 (k : Nat) : (10 : Int) ^ k ≤ 10 ^ (k + 1) := by
  have h : (0 : Int) ≤ 10 ^ k := Int.pow_nonneg (by omega)
  rw [Int.pow_succ]; omega
theorem Scn.Bd.dot {s : Scn} {k : Nat} (h : s.Bd k) (a : s.at' < 2) : s.dot.Bd (k + 1) := by
  have := p10 k
  exact ⟨by show s.at' + 1 ≤ 2; omega, h.a0, by have := h.a1; show s.a < _; omega, h.b0, by have := h.b1; show s.b < _; omega, h.c0, by have := h.c1; show s.c < _; omega⟩
theorem Scn.Bd.dig {s : Scn} {k : Nat} (h : s.Bd k) {x : Int} (a : 0 ≤ x) (b : x ≤ 9) : (s.dig x).Bd (k + 1) := by
  have hp := p10 k
  have he : (10 : Int) ^ (k + 1) = 10 ^ k * 10 := Int.pow_succ _ _
  obtain ⟨h1, h2, h3, h4, h5, h6, h7⟩ := h
  unfold Scn.dig; split
  · exact ⟨h1, by show 0 ≤ 10 * s.a + x; omega, by show 10 * s.a + x < _; omega, h4, by show s.b < _; omega, h6, by show s.c < _; omega⟩
  · split
    · exact ⟨h1, h2, by show s.a < _; omega, by show 0 ≤ 10 * s.b + x; omega, by show 10 * s.b + x < _; omega, h6, by show s.c < _; omega⟩
    · exact ⟨h1, h2, by show s.a < _; omega, h4, by show s.b < _; omega, by show 0 ≤ 10 * s.c + x; omega, by show 10 * s.c + x < _; omega⟩
theorem dc46 {c : UInt8} (h : dcB c = true) : c ≠ 46 := by rintro rfl; cases h
/-- what the scan of a date tells -/
theorem scan_good {l : List UInt8} (h : GoodD l) : scan l = ⟨2, yv l, mv l, dv l⟩ := by
  obtain ⟨hl, p4, p7, ha, hb, hc⟩ := h
  obtain ⟨a, b, c, d, e, f, g, i, j, k, rfl⟩ := ten hl
  simp only [List.getD_cons_succ, List.getD_cons_zero] at p4 p7
  simp only [List.take_succ_cons, List.take_zero, List.drop_succ_cons, List.drop_zero, List.all_cons, List.all_nil, Bool.and_true, Bool.and_eq_true] at ha hb hc
  subst p4 p7
  show (((((((((Scn.step (⟨0, 0, 0, 0⟩ : Scn) a).step b).step c).step d).step 46).step f).step g).step 46).step j).step k = _
  rw [Scn.step_dig ha.1, Scn.step_dig ha.2.1, Scn.step_dig ha.2.2.1, Scn.step_dig ha.2.2.2]
  rw [Scn.step_dot (s := Scn.dig (Scn.dig (Scn.dig (Scn.dig ⟨0, 0, 0, 0⟩ (dvB a)) (dvB b)) (dvB c)) (dvB d)) (c := 46) rfl (by show 0 < 2; omega), Scn.step_dig hb.1, Scn.step_dig hb.2]
  rw [Scn.step_dot (c := 46) rfl (by show 1 < 2; omega), Scn.step_dig hc.1, Scn.step_dig hc.2]
  rfl
theorem scan_at {l : List UInt8} (h : GoodD l) (k : Nat) (hk : k < 10) (hd : dcB (l.getD k 0) = false) : l.getD k 0 = 46 ∧ (scan (l.take k)).at' < 2 := by
  obtain ⟨hl, p4, p7, ha, hb, hc⟩ := h
  obtain ⟨a, b, c, d, e, f, g, i, j, m, rfl⟩ := ten hl
  simp only [List.getD_cons_succ, List.getD_cons_zero] at p4 p7
  simp only [List.take_succ_cons, List.take_zero, List.drop_succ_cons, List.drop_zero, List.all_cons, List.all_nil, Bool.and_true, Bool.and_eq_true] at ha hb hc
  subst p4 p7
  obtain rfl | rfl | rfl | rfl | rfl | rfl | rfl | rfl | rfl | rfl : k = 0 ∨ k = 1 ∨ k = 2 ∨ k = 3 ∨ k = 4 ∨ k = 5 ∨ k = 6 ∨ k = 7 ∨ k = 8 ∨ k = 9 := by omega
  · rw [show ([a, b, c, d, 46, f, g, 46, j, m].getD 0 0) = a from rfl, ha.1] at hd; cases hd
  · rw [show ([a, b, c, d, 46, f, g, 46, j, m].getD 1 0) = b from rfl, ha.2.1] at hd; cases hd
  · rw [show ([a, b, c, d, 46, f, g, 46, j, m].getD 2 0) = c from rfl, ha.2.2.1] at hd; cases hd
  · rw [show ([a, b, c, d, 46, f, g, 46, j, m].getD 3 0) = d from rfl, ha.2.2.2] at hd; cases hd
  · refine ⟨rfl, ?_⟩
    show ((((Scn.step (⟨0, 0, 0, 0⟩ : Scn) a).step b).step c).step d).at' < 2
    rw [Scn.step_dig ha.1, Scn.step_dig ha.2.1, Scn.step_dig ha.2.2.1, Scn.step_dig ha.2.2.2]; show 0 < 2; omega
  · rw [show ([a, b, c, d, 46, f, g, 46, j, m].getD 5 0) = f from rfl, hb.1] at hd; cases hd
  · rw [show ([a, b, c, d, 46, f, g, 46, j, m].getD 6 0) = g from rfl, hb.2] at hd; cases hd
  · refine ⟨rfl, ?_⟩
    show (((((((Scn.step (⟨0, 0, 0, 0⟩ : Scn) a).step b).step c).step d).step 46).step f).step g).at' < 2
    rw [Scn.step_dig ha.1, Scn.step_dig ha.2.1, Scn.step_dig ha.2.2.1, Scn.step_dig ha.2.2.2]
    rw [Scn.step_dot (c := 46) rfl (by show 0 < 2; omega), Scn.step_dig hb.1, Scn.step_dig hb.2]; show 1 < 2; omega
  · rw [show ([a, b, c, d, 46, f, g, 46, j, m].getD 8 0) = j from rfl, hc.1] at hd; cases hd
  · rw [show ([a, b, c, d, 46, f, g, 46, j, m].getD 9 0) = m from rfl, hc.2] at hd; cases hd
/-- the four ends of the reference's reading -/
theorem readD_stop {l : List UInt8} (k : Nat) (hk : k < 10) (hd : dcB (l.getD k 0) = false) (h : l.getD k 0 ≠ 46 ∨ 2 ≤ (scan (l.take k)).at') : readD l = -1 := by
  refine readD_bad (fun g => ?_)
  have := scan_at g k hk hd
  rcases h with h | h
  · exact h this.1
  · omega
theorem readD_neg {l : List UInt8} {t : Nat} {a b c : Int} (h : scan l = ⟨t, a, b, c⟩) (hn : dayN a b c < 0) : readD l = -1 := by
  by_cases g : GoodD l
  · rw [scan_good g] at h
    injection h with _ h1 h2 h3
    rw [readD_good g, h1, h2, h3]
    by_cases q : 1 ≤ c ∧ c ≤ mdays a b
    · have hi := isD_of q.1 q.2
      rw [dayN_in hi] at hn; have := hi.bd; omega
    · exact dayN_no (by omega)
  · exact readD_bad g
theorem dayN_pos {a b c : Int} (h : ¬ dayN a b c < 0) : IsD a b c := by
  by_cases q : 1 ≤ c ∧ c ≤ mdays a b
  · exact isD_of q.1 q.2
  · rw [dayN_no (by omega)] at h; omega
theorem readD_same {l : List UInt8} {a b c : Int} (hn : ¬ dayN a b c < 0) (e : dateT (dayN a b c) = l) : readD l = dayN a b c := by
  have hi := dayN_pos hn
  rw [dayN_in hi, dateT_of hi] at e
  rw [← e, readD_date hi, dayN_in hi]
theorem readD_diff {l : List UInt8} {t : Nat} {a b c : Int} (h : scan l = ⟨t, a, b, c⟩) (hn : ¬ dayN a b c < 0) (e : ¬ dateT (dayN a b c) = l) : readD l = -1 := by
  refine readD_bad (fun g => e ?_)
  rw [scan_good g] at h
  injection h with _ h1 h2 h3
  have hi := dayN_pos hn
  rw [dayN_in hi, dateT_of hi, ← h1, ← h2, ← h3, good_back g]
end Go.Proofs.Ytbljpbmpfmnemaa
