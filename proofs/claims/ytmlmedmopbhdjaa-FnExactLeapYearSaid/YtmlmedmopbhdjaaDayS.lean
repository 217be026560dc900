/-
  The verifier's own text: DayS.
-/
import Derived.Test.YtmlmedmopbhdjaaRows
import Derived.Test.YtmlmedmopbhdjaaLeapI
import Derived.Test.YtmlmedmopbhdjaaIn
import Derived.WalkKit
import Derived.ProofKit
import Derived.Below
import Derived.Lib.Hide
import Derived.Outline
import Derived.BigQuiet
import Derived.Deep.QuietTactic
import Derived.Deep.Draws
import Derived.Laws.OwnMore
import Derived.Laws.Rows
import Derived.WalkSpells
import Derived.Deep.RegionWith
namespace Go.Proofs.Ytmlmedmopbhdjaa
open Go.RowKit
set_option linter.unusedVariables false
theorem leapS_any (y : Int) (w : World) :
    Calls Try.prog 15 #[.int .i64 y] w fun e w' => e = .returned (.bool (leapB y)) ∧ w = w' := by
  obtain ⟨l, h⟩ | ⟨a, b, l, c, d⟩ | ⟨a, b, l, c, d, f⟩ | ⟨a, b, l, c, d⟩ | ⟨a, b, l, c, d, f⟩ := leap_cases y
  · have hr := Lib.hid l
    have hi : Hid (inB y 1 4000 = false) := by rcases h with h | h; exact Lib.hid (inB_lo h); exact Lib.hid (inB_hi h)
    clear l h
    go_enter Try.func15, Try.ntmps15
    go_wp2_with (go_at_call 31; refine (l1In_any _ _ _ _).mono ?_; rintro e w' ⟨rfl, rfl⟩; rw [hi.out])
    go_ret
    exact ⟨ret_bool hr.out.symm, rfl⟩
  all_goals
    have hr := Lib.hid l
    have hi := Lib.hid (inB_true a b)
    clear l
    go_enter Try.func15, Try.ntmps15
    go_wp2_with (go_at_call 31; refine (l1In_any _ _ _ _).mono ?_; rintro e w' ⟨rfl, rfl⟩; rw [hi.out])
    go_ret
    exact ⟨ret_bool hr.out.symm, rfl⟩
/-- an int, and memory that grew -/
def GotInt (v : Int) (w : World) (e : Ending) (w' : World) : Prop := e = .returned (.int .i64 v) ∧ Below w.heap.size w w'
theorem monthS_bad (y m : Int) (w : World) (h : inB y 1 4000 = false ∨ (inB y 1 4000 = true ∧ inB m 1 12 = false)) (hm : mdays y m = -1) :
    Calls Try.prog 19 #[.int .i64 y, .int .i64 m] w (GotInt (mdays y m) w) := by
  have hr := Lib.hid hm
  clear hm
  rcases h with h | ⟨h, h2⟩
  · have h := Lib.hid h
    go_enter Try.func19, Try.ntmps19
    go_wp2_with (go_at_call 31; refine (l1In_any _ _ _ _).mono ?_; rintro e w' ⟨rfl, rfl⟩; rw [h.out])
    go_ret
    exact ⟨ret_int hr.out.symm, Below.refl _ _⟩
  · go_enter Try.func19, Try.ntmps19
    go_wp2_with (go_at_call 31; refine (l1In_any _ _ _ _).mono ?_; rintro e w' ⟨rfl, rfl⟩; (first | rw [h] | rw [h2]))
    go_ret
    exact ⟨ret_int hr.out.symm, Below.refl _ _⟩
set_option maxHeartbeats 800000 in
theorem monthS_in (y m : Int) (w : World) (a : 1 ≤ y) (b : y ≤ 4000) (c : 1 ≤ m) (d : m ≤ 12) :
    Calls Try.prog 19 #[.int .i64 y, .int .i64 m] w (GotInt (mdays y m) w) := by
  have hr := Lib.hid (mdays_in a b c d)
  have hi := Lib.hid (inB_true a b)
  have hj := Lib.hid (inB_true c d)
  rcases hl : leapB y with _ | _
  · have hv := Lib.hid (lpI_f hl)
    have hl := Lib.hid hl
    obtain rfl | rfl | rfl | rfl | rfl | rfl | rfl | rfl | rfl | rfl | rfl | rfl := m12 c d
    all_goals
      clear c d
      go_enter Try.func19, Try.ntmps19
      go_wp2_with (first | (go_at_call 31; refine (l1In_any _ _ _ _).mono ?_; rintro e w' ⟨rfl, rfl⟩; (first | rw [hi.out] | rw [hj.out])) | (go_at_call 15; refine (leapS_any _ _).mono ?_; rintro e w' ⟨rfl, rfl⟩; rw [hl.out]))
      go_ret
      exact ⟨ret_int (by rw [hr.out]; (first | rfl | (simp only [md12, hv.out]; rfl))), (Below.refl _ _).alloc (Nat.le_refl _) _⟩
  · have hv := Lib.hid (lpI_t hl)
    have hl := Lib.hid hl
    obtain rfl | rfl | rfl | rfl | rfl | rfl | rfl | rfl | rfl | rfl | rfl | rfl := m12 c d
    all_goals
      clear c d
      go_enter Try.func19, Try.ntmps19
      go_wp2_with (first | (go_at_call 31; refine (l1In_any _ _ _ _).mono ?_; rintro e w' ⟨rfl, rfl⟩; (first | rw [hi.out] | rw [hj.out])) | (go_at_call 15; refine (leapS_any _ _).mono ?_; rintro e w' ⟨rfl, rfl⟩; rw [hl.out]))
      go_ret
      exact ⟨ret_int (by rw [hr.out]; (first | rfl | (simp only [md12, hv.out]; rfl))), by first | exact Below.refl _ _ | exact (Below.refl _ _).alloc (Nat.le_refl _) _⟩
theorem monthS_any (y m : Int) (w : World) :
    Calls Try.prog 19 #[.int .i64 y, .int .i64 m] w (GotInt (mdays y m) w) := by
  by_cases h : y < 1 ∨ 4000 < y
  · exact monthS_bad y m w (.inl (by rcases h with h | h; exact inB_lo h; exact inB_hi h)) (mdays_out (by omega))
  · by_cases h2 : m < 1 ∨ 12 < m
    · exact monthS_bad y m w (.inr ⟨inB_true (by omega) (by omega), by rcases h2 with h | h; exact inB_lo h; exact inB_hi h⟩) (mdays_out (by omega))
    · exact monthS_in y m w (by omega) (by omega) (by omega) (by omega)
theorem dayS_bad (y m d : Int) (w : World) (h : d < 1 ∨ mdays y m < d) :
    Calls Try.prog 22 #[.int .i64 y, .int .i64 m, .int .i64 d] w (GotInt (dayN y m d) w) := by
  have hr := Lib.hid (dayN_no h)
  have hi : Hid (inB d 1 (mdays y m) = false) := by rcases h with h | h; exact Lib.hid (inB_lo h); exact Lib.hid (inB_hi h)
  clear h
  go_enter Try.func22, Try.ntmps22
  go_wp2_with (first | (go_at_call 19; refine (monthS_any _ _ _).mono ?_; rintro e w' ⟨rfl, hb⟩) | (go_at_call 31; refine (l1In_any _ _ _ _).mono ?_; rintro e w' ⟨rfl, rfl⟩; rw [hi.out]))
  go_ret
  exact ⟨ret_int hr.out.symm, hb⟩
theorem dayS_in (y m d : Int) (w : World) (h1 : 1 ≤ d) (h2 : d ≤ mdays y m) :
    Calls Try.prog 22 #[.int .i64 y, .int .i64 m, .int .i64 d] w (GotInt (dayN y m d) w) := by
  have hid := isD_of h1 h2
  have hr := Lib.hid (dayN_in hid)
  obtain ⟨a1, a2, a3, a4, a5, a6⟩ := hid
  have b1 := dby_bd a1 (by omega)
  have b2 := dbm_bd y a3 (by omega)
  have b3 := md12_bd y m
  obtain ⟨b31, b32⟩ := b3
  have hd : d ≤ 31 := by omega
  have hi := Lib.hid (inB_true h1 h2)
  have hb0 : Hid (dby y = 365 * (y - 1) + (y - 1) / 4 - (y - 1) / 100 + (y - 1) / 400) := Lib.hid rfl
  have e1 := Lib.hid (dbm_one y)
  clear a6 h2 b1 b2 b31 b32
  go_enter Try.func22, Try.ntmps22
  go_wp2_with (first | (go_at_call 19; refine (monthS_any _ _ _).mono ?_; rintro e w' ⟨rfl, hb⟩) | (go_at_call 31; refine (l1In_any _ _ _ _).mono ?_; rintro e w' ⟨rfl, rfl⟩; rw [hi.out]))
  go_loopw [8, 9] (fun t i wr => ∃ k : Int, 1 ≤ k ∧ k ≤ m ∧ i = .int .i64 k ∧ t = .int .i64 (dby y + d - 1 + dbm y k) ∧ Below w.heap.size w wr) (fun _ i _ => (m - intOf i).toNat)
  case atStart => exact ⟨1, by omega, by omega, rfl, by rw [e1.out, hb0.out]; congr 1; omega, hb⟩
  case round =>
    obtain ⟨k, hk1, hk2, rfl, rfl, hbw⟩ := hrel
    have b1 := dby_bd a1 (by omega)
    obtain ⟨b11, b12⟩ := b1
    have b2 := dbm_bd y hk1 (by omega)
    obtain ⟨b21, b22⟩ := b2
    by_cases hlt : k < m
    · have hs := Lib.hid (dbm_succ y hk1 (by omega))
      have hm := Lib.hid (mdays_in a1 a2 hk1 (by omega : k ≤ 12))
      have b3 := mdays_bd y k
      obtain ⟨b31, b32⟩ := b3
      go_wp2_with (go_at_call 19; refine (monthS_any _ _ _).mono ?_; rintro e w' ⟨rfl, hb2⟩)
      go_roundw
      case rel => exact ⟨k + 1, by omega, by omega, rfl, by rw [hs.out, hm.out]; congr 1; omega, hbw.trans (hb2.mono hbw.size)⟩
      case measure => simp [intOf]; omega
    · have e : k = m := by omega
      subst e
      go_wp2
      go_ret
      exact ⟨ret_int (by rw [hr.out]; unfold numD; omega), hbw⟩
theorem dayS_any (y m d : Int) (w : World) :
    Calls Try.prog 22 #[.int .i64 y, .int .i64 m, .int .i64 d] w (GotInt (dayN y m d) w) := by
  by_cases h : 1 ≤ d ∧ d ≤ mdays y m
  · exact dayS_in y m d w h.1 h.2
  · exact dayS_bad y m d w (by omega)
end Go.Proofs.Ytmlmedmopbhdjaa
