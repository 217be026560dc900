/-
  The verifier's own text: DayS DateTS.
-/
import Derived.Test.YtbljpbmpfmnemaaRows
import Derived.Test.YtbljpbmpfmnemaaGe
import Derived.Test.YtbljpbmpfmnemaaGc
import Derived.Test.YtbljpbmpfmnemaaGb
import Derived.Laws.NewBlocks
import Derived.WalkKit
import Derived.ProofKit
import Derived.Below
import Derived.Lib.Hide
import Derived.Outline
import Derived.BigQuiet
import Derived.Deep.QuietTactic
import Derived.Deep.Draws
import Derived.Laws.OwnMore
import Derived.Laws.Rows
import Derived.WalkSpells
import Derived.Deep.RegionWith
namespace Go.Proofs.Ytbljpbmpfmnemaa
open Go.RowKit
set_option linter.unusedVariables false
theorem leapS_any (y : Int) (w : World) :
    Calls Try.prog 82 #[.int .i64 y] w fun e w' => e = .returned (.bool (leapB y)) ∧ w = w' := by
  obtain ⟨l, h⟩ | ⟨a, b, l, c, d⟩ | ⟨a, b, l, c, d, f⟩ | ⟨a, b, l, c, d⟩ | ⟨a, b, l, c, d, f⟩ := leap_cases y
  · have hr := Lib.hid l
    have hi : Hid (inB y 1 4000 = false) := by rcases h with h | h; exact Lib.hid (inB_lo h); exact Lib.hid (inB_hi h)
    clear l h
    go_enter Try.func82, Try.ntmps82
    go_wp2_with (go_at_call 77; refine (l1In_any _ _ _ _).mono ?_; rintro e w' ⟨rfl, rfl⟩; rw [hi.out])
    go_ret
    exact ⟨ret_bool hr.out.symm, rfl⟩
  all_goals
    have hr := Lib.hid l
    have hi := Lib.hid (inB_true a b)
    clear l
    go_enter Try.func82, Try.ntmps82
    go_wp2_with (go_at_call 77; refine (l1In_any _ _ _ _).mono ?_; rintro e w' ⟨rfl, rfl⟩; rw [hi.out])
    go_ret
    exact ⟨ret_bool hr.out.symm, rfl⟩
/-- an int, and memory that grew -/
def GotInt (v : Int) (w : World) (e : Ending) (w' : World) : Prop := e = .returned (.int .i64 v) ∧ Below w.heap.size w w'
theorem monthS_bad (y m : Int) (w : World) (h : inB y 1 4000 = false ∨ (inB y 1 4000 = true ∧ inB m 1 12 = false)) (hm : mdays y m = -1) :
    Calls Try.prog 80 #[.int .i64 y, .int .i64 m] w (GotInt (mdays y m) w) := by
  have hr := Lib.hid hm
  clear hm
  rcases h with h | ⟨h, h2⟩
  · have h := Lib.hid h
    go_enter Try.func80, Try.ntmps80
    go_wp2_with (go_at_call 77; refine (l1In_any _ _ _ _).mono ?_; rintro e w' ⟨rfl, rfl⟩; rw [h.out])
    go_ret
    exact ⟨ret_int hr.out.symm, Below.refl _ _⟩
  · go_enter Try.func80, Try.ntmps80
    go_wp2_with (go_at_call 77; refine (l1In_any _ _ _ _).mono ?_; rintro e w' ⟨rfl, rfl⟩; (first | rw [h] | rw [h2]))
    go_ret
    exact ⟨ret_int hr.out.symm, Below.refl _ _⟩
set_option maxRecDepth 100000 in
set_option maxHeartbeats 800000 in
theorem monthS_in (y m : Int) (w : World) (a : 1 ≤ y) (b : y ≤ 4000) (c : 1 ≤ m) (d : m ≤ 12) :
    Calls Try.prog 80 #[.int .i64 y, .int .i64 m] w (GotInt (mdays y m) w) := by
  have hr := Lib.hid (mdays_in a b c d)
  have hi := Lib.hid (inB_true a b)
  have hj := Lib.hid (inB_true c d)
  rcases hl : leapB y with _ | _
  · have hv := Lib.hid (lpI_f hl)
    have hl := Lib.hid hl
    obtain rfl | rfl | rfl | rfl | rfl | rfl | rfl | rfl | rfl | rfl | rfl | rfl := m12 c d
    all_goals
      clear c d
      go_enter Try.func80, Try.ntmps80
      go_wp2_with (first | (go_at_call 77; refine (l1In_any _ _ _ _).mono ?_; rintro e w' ⟨rfl, rfl⟩; (first | rw [hi.out] | rw [hj.out])) | (go_at_call 82; refine (leapS_any _ _).mono ?_; rintro e w' ⟨rfl, rfl⟩; rw [hl.out]))
      go_ret
      exact ⟨ret_int (by rw [hr.out]; (first | rfl | (simp only [md12, hv.out]; rfl))), (Below.refl _ _).alloc (Nat.le_refl _) _⟩
  · have hv := Lib.hid (lpI_t hl)
    have hl := Lib.hid hl
    obtain rfl | rfl | rfl | rfl | rfl | rfl | rfl | rfl | rfl | rfl | rfl | rfl := m12 c d
    all_goals
      clear c d
      go_enter Try.func80, Try.ntmps80
      go_wp2_with (first | (go_at_call 77; refine (l1In_any _ _ _ _).mono ?_; rintro e w' ⟨rfl, rfl⟩; (first | rw [hi.out] | rw [hj.out])) | (go_at_call 82; refine (leapS_any _ _).mono ?_; rintro e w' ⟨rfl, rfl⟩; rw [hl.out]))
      go_ret
      exact ⟨ret_int (by rw [hr.out]; (first | rfl | (simp only [md12, hv.out]; rfl))), by first | exact Below.refl _ _ | exact (Below.refl _ _).alloc (Nat.le_refl _) _⟩
theorem monthS_any (y m : Int) (w : World) :
    Calls Try.prog 80 #[.int .i64 y, .int .i64 m] w (GotInt (mdays y m) w) := by
  by_cases h : y < 1 ∨ 4000 < y
  · exact monthS_bad y m w (.inl (by rcases h with h | h; exact inB_lo h; exact inB_hi h)) (mdays_out (by omega))
  · by_cases h2 : m < 1 ∨ 12 < m
    · exact monthS_bad y m w (.inr ⟨inB_true (by omega) (by omega), by rcases h2 with h | h; exact inB_lo h; exact inB_hi h⟩) (mdays_out (by omega))
    · exact monthS_in y m w (by omega) (by omega) (by omega) (by omega)
theorem dayS_bad (y m d : Int) (w : World) (h : d < 1 ∨ mdays y m < d) :
    Calls Try.prog 78 #[.int .i64 y, .int .i64 m, .int .i64 d] w (GotInt (dayN y m d) w) := by
  have hr := Lib.hid (dayN_no h)
  have hi : Hid (inB d 1 (mdays y m) = false) := by rcases h with h | h; exact Lib.hid (inB_lo h); exact Lib.hid (inB_hi h)
  clear h
  go_enter Try.func78, Try.ntmps78
  go_wp2_with (first | (go_at_call 80; refine (monthS_any _ _ _).mono ?_; rintro e w' ⟨rfl, hb⟩) | (go_at_call 77; refine (l1In_any _ _ _ _).mono ?_; rintro e w' ⟨rfl, rfl⟩; rw [hi.out]))
  go_ret
  exact ⟨ret_int hr.out.symm, hb⟩
theorem dayS_in (y m d : Int) (w : World) (h1 : 1 ≤ d) (h2 : d ≤ mdays y m) :
    Calls Try.prog 78 #[.int .i64 y, .int .i64 m, .int .i64 d] w (GotInt (dayN y m d) w) := by
  have hid := isD_of h1 h2
  have hr := Lib.hid (dayN_in hid)
  obtain ⟨a1, a2, a3, a4, a5, a6⟩ := hid
  have b1 := dby_bd a1 (by omega)
  have b2 := dbm_bd y a3 (by omega)
  have b3 := md12_bd y m
  obtain ⟨b31, b32⟩ := b3
  have hd : d ≤ 31 := by omega
  have hi := Lib.hid (inB_true h1 h2)
  have hb0 : Hid (dby y = 365 * (y - 1) + (y - 1) / 4 - (y - 1) / 100 + (y - 1) / 400) := Lib.hid rfl
  have e1 := Lib.hid (dbm_one y)
  clear a6 h2 b1 b2 b31 b32
  go_enter Try.func78, Try.ntmps78
  go_wp2_with (first | (go_at_call 80; refine (monthS_any _ _ _).mono ?_; rintro e w' ⟨rfl, hb⟩) | (go_at_call 77; refine (l1In_any _ _ _ _).mono ?_; rintro e w' ⟨rfl, rfl⟩; rw [hi.out]))
  go_loopw [8, 9] (fun t i wr => ∃ k : Int, 1 ≤ k ∧ k ≤ m ∧ i = .int .i64 k ∧ t = .int .i64 (dby y + d - 1 + dbm y k) ∧ Below w.heap.size w wr) (fun _ i _ => (m - intOf i).toNat)
  case atStart => exact ⟨1, by omega, by omega, rfl, by rw [e1.out, hb0.out]; congr 1; omega, hb⟩
  case round =>
    obtain ⟨k, hk1, hk2, rfl, rfl, hbw⟩ := hrel
    have b1 := dby_bd a1 (by omega)
    obtain ⟨b11, b12⟩ := b1
    have b2 := dbm_bd y hk1 (by omega)
    obtain ⟨b21, b22⟩ := b2
    by_cases hlt : k < m
    · have hs := Lib.hid (dbm_succ y hk1 (by omega))
      have hm := Lib.hid (mdays_in a1 a2 hk1 (by omega : k ≤ 12))
      have b3 := mdays_bd y k
      obtain ⟨b31, b32⟩ := b3
      go_wp2_with (go_at_call 80; refine (monthS_any _ _ _).mono ?_; rintro e w' ⟨rfl, hb2⟩)
      go_roundw
      case rel => exact ⟨k + 1, by omega, by omega, rfl, by rw [hs.out, hm.out]; congr 1; omega, hbw.trans (hb2.mono hbw.size)⟩
      case measure => simp [intOf]; omega
    · have e : k = m := by omega
      subst e
      go_wp2
      go_ret
      exact ⟨ret_int (by rw [hr.out]; unfold numD; omega), hbw⟩
theorem dayS_any (y m d : Int) (w : World) :
    Calls Try.prog 78 #[.int .i64 y, .int .i64 m, .int .i64 d] w (GotInt (dayN y m d) w) := by
  by_cases h : 1 ≤ d ∧ d ≤ mdays y m
  · exact dayS_in y m d w h.1 h.2
  · exact dayS_bad y m d w (by omega)
theorem dayN_last : dayN 4000 12 31 = 1460969 := by decide
theorem dateS_out (n : Int) (w : World) (h : n < 0 ∨ 1460969 < n) :
    Calls Try.prog 70 #[.int .i64 n] w (GotStr (dateT n) w) := by
  have hr := Lib.hid (dateT_out h)
  have hl := Lib.hid dayN_last
  have hi : Hid (inB n 0 1460969 = false) := by rcases h with h | h; exact Lib.hid (inB_lo h); exact Lib.hid (inB_hi h)
  clear h
  go_enter Try.func70, Try.ntmps70
  go_wp2_with fail
  refine (dayS_any 4000 12 31 _).mono ?_
  rintro e w1 ⟨rfl, hb1⟩
  rw [hl.out]
  go_wp2_with (go_at_call 77; refine (l1In_any _ _ _ _).mono ?_; rintro e w' ⟨rfl, rfl⟩; rw [hi.out])
  go_ret
  exact ⟨by rw [hr.out]; rfl, hb1⟩
/-- the first day of a year, of a month -/
theorem dayN_y1 {k : Int} (a : 1 ≤ k) (b : k ≤ 4000) : dayN k 1 1 = dby k := by
  have hd : IsD k 1 1 := ⟨a, b, by omega, by omega, by omega, by have := md12_bd k 1; omega⟩
  rw [dayN_in hd]; unfold numD; rw [dbm_one]; omega
theorem dayN_m1 {y k : Int} (a : 1 ≤ y) (b : y ≤ 4000) (c : 1 ≤ k) (d : k ≤ 12) : dayN y k 1 = dby y + dbm y k := by
  have hd : IsD y k 1 := ⟨a, b, c, d, by omega, by have := md12_bd y k; omega⟩
  rw [dayN_in hd]; unfold numD; omega
/-- the numbers of the digits, -1 for a point -/
def dI (y m d : Int) : List Int := [y / 1000, y / 100 % 10, y / 10 % 10, y % 10, -1, m / 10, m % 10, -1, d / 10, d % 10]
theorem dI_at (y m d : Int) (h : 0 ≤ y) (h' : y ≤ 9999) (i : 0 ≤ m) (i' : m ≤ 99) (j : 0 ≤ d) (j' : d ≤ 99) (k : Nat) (hk : k < 10) :
    ((dI y m d).getD k 0 = -1 ∧ (dateL y m d).take (k + 1) = (dateL y m d).take k ++ [46]) ∨ (0 ≤ (dI y m d).getD k 0 ∧ (dI y m d).getD k 0 ≤ 9 ∧ (dateL y m d).take (k + 1) = (dateL y m d).take k ++ [dg ((dI y m d).getD k 0)]) := by
  obtain rfl | rfl | rfl | rfl | rfl | rfl | rfl | rfl | rfl | rfl : k = 0 ∨ k = 1 ∨ k = 2 ∨ k = 3 ∨ k = 4 ∨ k = 5 ∨ k = 6 ∨ k = 7 ∨ k = 8 ∨ k = 9 := by omega
  · exact .inr ⟨by show 0 ≤ y / 1000; omega, by show y / 1000 ≤ 9; omega, rfl⟩
  · exact .inr ⟨by show 0 ≤ y / 100 % 10; omega, by show y / 100 % 10 ≤ 9; omega, rfl⟩
  · exact .inr ⟨by show 0 ≤ y / 10 % 10; omega, by show y / 10 % 10 ≤ 9; omega, rfl⟩
  · exact .inr ⟨by show 0 ≤ y % 10; omega, by show y % 10 ≤ 9; omega, rfl⟩
  · exact .inl ⟨rfl, rfl⟩
  · exact .inr ⟨by show 0 ≤ m / 10; omega, by show m / 10 ≤ 9; omega, rfl⟩
  · exact .inr ⟨by show 0 ≤ m % 10; omega, by show m % 10 ≤ 9; omega, rfl⟩
  · exact .inl ⟨rfl, rfl⟩
  · exact .inr ⟨by show 0 ≤ d / 10; omega, by show d / 10 ≤ 9; omega, rfl⟩
  · exact .inr ⟨by show 0 ≤ d % 10; omega, by show d % 10 ≤ 9; omega, rfl⟩
/-- a block that reads as the digits' numbers -/
def Dcells (w : World) (b : Nat) (y m d : Int) : Prop := ∀ j, j < 10 → w.cell? ⟨b, j, none⟩ = some (.int .i64 ((dI y m d).getD j 0))
theorem dcells_new (w : World) (y m d : Int) (t : TypeId) : Dcells (w.alloc (.cells #[.int .i64 (y / 1000), .int .i64 (y / 100 % 10), .int .i64 (y / 10 % 10), .int .i64 (y % 10), .int .i64 (-1), .int .i64 (m / 10), .int .i64 (m % 10), .int .i64 (-1), .int .i64 (d / 10), .int .i64 (d % 10)] t)) w.heap.size y m d := by
  intro j hj
  rw [World.cell?_alloc_new]
  obtain rfl | rfl | rfl | rfl | rfl | rfl | rfl | rfl | rfl | rfl : j = 0 ∨ j = 1 ∨ j = 2 ∨ j = 3 ∨ j = 4 ∨ j = 5 ∨ j = 6 ∨ j = 7 ∨ j = 8 ∨ j = 9 := by omega
  all_goals rfl
theorem dcells_alloc {w : World} {b : Nat} {y m d : Int} (h : Dcells w b y m d) (o : Obj) : Dcells (w.alloc o) b y m d := by
  intro j hj
  have hc := h j hj
  have hl := block_lt_of_cell hc
  rw [World.cell?_alloc_lt w o ⟨b, j, none⟩ hl]; exact hc
theorem bs46 (l : List UInt8) : bs l ++ ⟨#[46]⟩ = bs (l ++ [46]) := by rw [← bs_append]; rfl
set_option maxRecDepth 100000 in
set_option maxHeartbeats 2000000 in
theorem dateS_in (y m d : Int) (w : World) (h : IsD y m d) :
    Calls Try.prog 70 #[.int .i64 (numD y m d)] w (GotStr (dateT (numD y m d)) w) := by
  have hr := Lib.hid (dateT_of h)
  have hl := Lib.hid dayN_last
  obtain ⟨b1, b2, b3, b4⟩ := h.bd
  obtain ⟨r1, r2, r3, r4, r5, r6⟩ := isD_rng h
  obtain ⟨y1, y2, m1, m2, d1, d2⟩ := h
  have hi := Lib.hid (inB_true b1 b4)
  have hn : Hid (numD y m d = dby y + dbm y m + d - 1) := Lib.hid rfl
  have hyd := Lib.hid (show dby y ≤ numD y m d ∧ numD y m d < dby (y + 1) from ⟨b3, b2⟩)
  have hmd : Hid (dbm y m ≤ numD y m d - dby y ∧ numD y m d - dby y < dbm y (m + 1)) := Lib.hid ⟨by rw [hn.out]; omega, by rw [dbm_succ y m1 m2, hn.out]; omega⟩
  obtain ⟨n, hnn⟩ : ∃ n, numD y m d = n := ⟨_, rfl⟩
  rw [hnn] at b1 b2 b3 b4 hi hn hyd hmd hr ⊢
  have g : Hid (∀ k : Int, 1 ≤ k → k ≤ 4000 → dby k ≤ n → k ≤ y) := Lib.hid (fun k a b c => by
    rcases Int.lt_or_le y k with l | l
    · have := dby_mono (a := y + 1) (b := k) (by omega) (by omega); have := hyd.out; omega
    · exact l)
  have g' : Hid (∀ k : Int, 1 ≤ k → k ≤ 12 → dbm y k ≤ n - dby y → k ≤ m) := Lib.hid (fun k a b c => by
    rcases Int.lt_or_le m k with l | l
    · have := dbm_mono y (m := m + 1) (k := k) (by omega) (by omega) (by omega); have := hmd.out; omega
    · exact l)
  have g0 : Hid (dby (n / 366 + 1) ≤ n) := Lib.hid (by unfold dby; omega)
  clear hnn b2 b3 d2
  go_enter Try.func70, Try.ntmps70
  go_wp2_with fail
  refine (dayS_any 4000 12 31 _).mono ?_
  rintro e w1 ⟨rfl, hb1⟩
  rw [hl.out]
  have hb1 := Lib.hid hb1
  go_wp2_with (go_at_call 77; refine (l1In_any _ _ _ _).mono ?_; rintro e w' ⟨rfl, rfl⟩; rw [hi.out])
  go_loopw [3] (fun t wr => ∃ k : Int, 1 ≤ k ∧ k ≤ 4000 ∧ Hid (dby k ≤ n) ∧ t = .int .i64 k ∧ Hid (Below w.heap.size w wr)) (fun t _ => (4000 - intOf t).toNat)
  case atStart => exact ⟨n / 366 + 1, by omega, by omega, g0, rfl, hb1⟩
  case round =>
    obtain ⟨k, hk1, hk2, hk3, rfl, hbw⟩ := hrel
    have ky := g.out k hk1 hk2 hk3.out
    by_cases hc : k < 4000 ∧ dby (k + 1) ≤ n
    · obtain ⟨hlt, hle⟩ := hc
      have q1 : decide (k < 4000) = true := decide_eq_true hlt
      have e1 := Lib.hid (dayN_y1 (k := k + 1) (by omega) (by omega))
      have hle' := Lib.hid hle
      go_wp2_with (go_at_call 78; refine (dayS_any _ _ _ _).mono ?_; rintro e w2 ⟨rfl, hb2⟩; rw [e1.out])
      go_roundw
      case rel => exact ⟨k + 1, by omega, by omega, hle', rfl, Lib.hid (below_trans' hbw.out hb2)⟩
      case measure => simp [intOf]; omega
    · have e : k = y := by
        rcases Int.lt_or_le k y with l | l
        · have := dby_mono (a := k + 1) (b := y) (by omega) (by omega); have := hyd.out; omega
        · omega
      subst e
      have q : decide (k < 4000) = false ∨ (decide (k < 4000) = true ∧ decide (dby (k + 1) ≤ n) = false) := by
        by_cases q : k < 4000
        · exact .inr ⟨decide_eq_true q, decide_eq_false (fun h => hc ⟨q, h⟩)⟩
        · exact .inl (decide_eq_false q)
      clear hc ky hk3 g g0
      have hx : Hid (k < 4000 → dayN (k + 1) 1 1 = dby (k + 1)) := Lib.hid (fun q => dayN_y1 (by omega) (by omega))
      have e0 := Lib.hid (dbm_one k)
      have c0 := Lib.hid (dayN_m1 y1 y2 m1 m2)
      obtain ⟨c, hc⟩ : ∃ c, dayN k m 1 = c := ⟨_, rfl⟩
      have D : Hid (n - c + 1 = d) := Lib.hid (by rw [← hc, c0.out, hn.out]; omega)
      have D1 : 1 ≤ n - c + 1 := by rw [D.out]; exact d1
      have D2 : n - c + 1 ≤ 99 := by rw [D.out]; omega
      have D0 : 0 ≤ n - c := by omega
      have hc := Lib.hid hc
      rcases q with q | ⟨q, q2⟩
      all_goals
        go_wp2_with (go_at_call 78; refine (dayS_any _ _ _ _).mono ?_; rintro e w2 ⟨rfl, hb2⟩; rw [hx.out (of_decide_eq_true q)]; have hbw := Lib.hid (below_trans' hbw.out hb2); clear hb2)
        go_loopw [4] (fun t wr => ∃ j : Int, 1 ≤ j ∧ j ≤ 12 ∧ Hid (dbm k j ≤ n - dby k) ∧ t = .int .i64 j ∧ Hid (Below w.heap.size w wr)) (fun t _ => (12 - intOf t).toNat)
        case atStart => exact ⟨1, by omega, by omega, Lib.hid (by rw [e0.out]; have := hyd.out; omega), rfl, hbw⟩
        case round =>
          obtain ⟨j, hj1, hj2, hj3, rfl, hbv⟩ := hrel
          have jy := g'.out j hj1 hj2 hj3.out
          by_cases hc' : j < 12 ∧ dbm k (j + 1) ≤ n - dby k
          · obtain ⟨hlt, hle⟩ := hc'
            have q3 : decide (j < 12) = true := decide_eq_true hlt
            have e2 := Lib.hid (dayN_m1 (k := j + 1) y1 y2 (by omega) (by omega))
            have q4 : dby k + dbm k (j + 1) ≤ n := by omega
            have hle' := Lib.hid hle
            clear hle
            go_wp2_with (go_at_call 78; refine (dayS_any _ _ _ _).mono ?_; rintro e w3 ⟨rfl, hb3⟩; rw [e2.out])
            go_roundw
            case rel => exact ⟨j + 1, by omega, by omega, hle', rfl, Lib.hid (below_trans' hbv.out hb3)⟩
            case measure => simp [intOf]; omega
          · have e : j = m := by
              rcases Int.lt_or_le j m with l | l
              · have := dbm_mono k (m := j + 1) (k := m) (by omega) (by omega) (by omega); have := hmd.out; omega
              · omega
            subst e
            have q' : decide (j < 12) = false ∨ (decide (j < 12) = true ∧ decide (dby k + dbm k (j + 1) ≤ n) = false) := by
              by_cases q : j < 12
              · exact .inr ⟨decide_eq_true q, decide_eq_false (fun h => hc' ⟨q, by omega⟩)⟩
              · exact .inl (decide_eq_false q)
            have hx2 : Hid (j < 12 → dayN k (j + 1) 1 = dby k + dbm k (j + 1)) := Lib.hid (fun q => dayN_m1 y1 y2 (by omega) (by omega))
            clear hc' jy hj3
            rcases q' with q' | ⟨q', q3⟩
            all_goals
              go_wp2_with (go_at_call 78; refine (dayS_any _ _ _ _).mono ?_; rintro e w4 ⟨rfl, hb4⟩; (first | rw [hc.out] | rw [hx2.out (of_decide_eq_true q')]); have hbv := Lib.hid (below_trans' hbv.out hb4); clear hb4)
              have happ := bs_append
              have h46 := bs46
              go_loopw [6, 8] (fun t i wr => ∃ (p : Nat) (l : List UInt8), p ≤ 10 ∧ i = .int .i64 p ∧ t = .string (bs l) ∧ l.length ≤ 10 ∧ Hid (l = (dateL k j (n - c + 1)).take p) ∧ Hid (Below w.heap.size w wr) ∧ Hid (Dcells wr w4.heap.size k j (n - c + 1))) (fun _ i _ => 10 - (intOf i).toNat)
              case atStart => exact ⟨0, [], by omega, rfl, rfl, by simp, Lib.hid rfl, Lib.hid (hbv.out.alloc hbv.out.size _), Lib.hid (dcells_new _ _ _ _ _)⟩
              case round =>
                obtain ⟨p, l, hp, rfl, rfl, hll, hl, hbr, hdc⟩ := hrel
                by_cases hlt : p < 10
                · have hcell := hdc.out p hlt
                  have hat := dI_at k j (n - c + 1) (by omega) (by omega) (by omega) (by omega) (by omega) (by omega) p hlt
                  generalize (dI k j (n - c + 1)).getD p 0 = v at hcell hat
                  have hsz : (bs l).size + 1 ≤ 9223372036854775807 := by rw [bs_size]; omega
                  rcases hat with ⟨rfl, ht⟩ | ⟨v0, v9, ht⟩
                  · have ht := Lib.hid ht
                    go_wp2
                    go_roundw
                    case rel => exact ⟨p + 1, _, by omega, by go_num, rfl, by rw [hl.out, ← ht.out]; exact List.length_take_le' _ _, Lib.hid (by rw [ht.out, hl.out]), hbr, hdc⟩
                    case measure => simp [intOf]; omega
                  · have ht := Lib.hid ht
                    have hcv := conv1 wr (dg v)
                    have hw := dgW v0 v9
                    have hsz2 : (bs l).size + (bs [dg v]).size ≤ 9223372036854775807 := by rw [bs_size [dg v]]; exact hsz
                    go_wp2
                    go_roundw
                    case rel => exact ⟨p + 1, _, by omega, by go_num, rfl, by rw [hl.out, ← ht.out]; exact List.length_take_le' _ _, Lib.hid (by rw [ht.out, hl.out]), Lib.hid (hbr.out.alloc hbr.out.size _), Lib.hid (dcells_alloc hdc.out _)⟩
                    case measure => simp [intOf]; omega
                · have hr' : Hid (dateT n = l) := Lib.hid (by rw [hr.out, hl.out, D.out, List.take_of_length_le (by rw [dateL_len]; omega)])
                  go_wp2
                  go_ret
                  exact ⟨by rw [hr'.out]; rfl, hbr.out⟩
theorem dateS_any (n : Int) (w : World) :
    Calls Try.prog 70 #[.int .i64 n] w (GotStr (dateT n) w) := by
  by_cases h : n < 0 ∨ 1460969 < n
  · exact dateS_out n w h
  · obtain ⟨y, m, d, hd, rfl⟩ := date_of (n := n) (by omega) (by omega)
    exact dateS_in y m d w hd
end Go.Proofs.Ytbljpbmpfmnemaa
