/-
  The verifier's own text: CutMath AyI AyI2.
-/
import Derived.Test.YtolkgamfoopnjaaRows
import Derived.Test.YtolkgamfoopnjaaHG
import Derived.Test.YtolkgamfoopnjaaHN
import Derived.Test.YtolkgamfoopnjaaHH
import Derived.Test.YtolkgamfoopnjaaHA
import Derived.Test.YtolkgamfoopnjaaMarkI
import Derived.Test.YtolkgamfoopnjaaReadMarkI
import Derived.Test.YtolkgamfoopnjaaGc
import Derived.Test.YtolkgamfoopnjaaNumI
import Derived.Deep.RegionHeld3
import Derived.WalkKit
import Derived.ProofKit
import Derived.Below
import Derived.Lib.Hide
import Derived.Outline
import Derived.BigQuiet
import Derived.Deep.QuietTactic
import Derived.Deep.Draws
import Derived.Laws.OwnMore
import Derived.Laws.Rows
import Derived.WalkSpells
import Derived.Deep.RegionWith
namespace Go.Proofs.Ytolkgamfoopnjaa
open Go.RowKit
set_option linter.unusedVariables false
/-! A text cut at its first space. -/
abbrev CutL (s a b : List UInt8) : Prop := CutC 32 s a b
theorem cutL_app {u t a b : List UInt8} (h : (32 : UInt8) ∉ u) (c : CutL (u ++ 32 :: t) a b) : a = u ∧ b = t := cutC_app h c
theorem cutL_some {s a b : List UInt8} (h : b ≠ []) (c : CutL s a b) : (32 : UInt8) ∉ a ∧ s = a ++ 32 :: b := cutC_some h c
/-- the activity that a text cut three times stands for -/
theorem ayR_cut {s k r1 n r2 c : List UInt8} {d : ByteArray} (c1 : CutL s k r1) (c2 : CutL r1 n r2) (c3 : CutL r2 c d.data.toList) :
    ayR s = if ayB (ayW k n c d) = true then (ayW k n c d, true) else (Ay.zero, false) := by
  by_cases h : ayB (ayW k n c d) = true
  · rw [if_pos h]
    obtain ⟨b0, b1, b2, b3⟩ := ayB_of h
    have b3 : wordB d.data.toList = true := b3
    have hd : d.data.toList ≠ [] := by
      intro e
      rw [e] at b3; revert b3; decide
    obtain ⟨p1, p2⟩ := cutL_some hd c3
    obtain ⟨p3, p4⟩ := cutL_some (by rw [p2]; simp) c2
    obtain ⟨p5, p6⟩ := cutL_some (by rw [p4]; simp) c1
    have hw : wdS s = [k, n, c, d.data.toList] := by
      rw [p6, wdS_app _ _ p5, p4, wdS_app _ _ p3, p2, wdS_app _ _ p1, wdS_one _ (word_no32 b3)]
    refine ayR_yes hw ?_ h
    rcases q : hnR c with ⟨y, z⟩
    cases z with
    | true => rfl
    | false =>
      exfalso
      have e : y = Hn.zero := by
        unfold hnR at q
        split at q
        · simp at q
        · injection q with a b; exact a.symm
      have b2 : hnB (hnR c).1 = true := b2
      rw [q, e, hnB_zero] at b2; cases b2
  · rw [if_neg h]
    refine ayR_no fun y hy e => h ?_
    obtain ⟨b0, b1, b2, b3⟩ := ayB_of hy
    unfold ayT1 at e
    subst e
    obtain ⟨e1, e2⟩ := cutL_app (kwT_no32 b0) c1
    subst e1; subst e2
    obtain ⟨e1, e2⟩ := cutL_app (mark_no32 _) c2
    subst e1; subst e2
    obtain ⟨e1, e2⟩ := cutL_app (hn_no32 b2) c3
    subst e1
    have hc : hnR (hnT1 y.who) = (y.who, true) := hnR_of b2 rfl
    have e4 : d = y.what := by apply ByteArray.ext; exact Array.toList_inj.1 e2
    have : ayW (kwT y.kind) (markT y.num) (hnT1 y.who) d = y := by
      unfold ayW
      rw [kwI_T b0, readM_T b1, hc, e4]
    rw [this]; exact hy
theorem kwI_in (k : Int) (w : World) (h : 0 ≤ k ∧ k ≤ 5) :
    Calls Try.prog 14 #[.int .i64 k] w fun e w' => e = .returned (.string (kwB k)) ∧ w = w' := by
  obtain rfl | rfl | rfl | rfl | rfl | rfl := six h
  all_goals
    go_enter Try.func14, Try.ntmps14
    go_wp2
    go_ret
    exact ⟨rfl, rfl⟩
theorem kwI_out (k : Int) (w : World) (h : inB k 0 5 = false) :
    Calls Try.prog 14 #[.int .i64 k] w fun e w' => e = .returned (.string ⟨#[]⟩) ∧ w = w' := by
  have h : ¬ (0 ≤ k ∧ k ≤ 5) := of_decide_eq_false h
  have d0 : (k == 0) = false := by rw [beq_eq_false_iff_ne]; omega
  have d1 : (k == 1) = false := by rw [beq_eq_false_iff_ne]; omega
  have d2 : (k == 2) = false := by rw [beq_eq_false_iff_ne]; omega
  have d3 : (k == 3) = false := by rw [beq_eq_false_iff_ne]; omega
  have d4 : (k == 4) = false := by rw [beq_eq_false_iff_ne]; omega
  have d5 : (k == 5) = false := by rw [beq_eq_false_iff_ne]; omega
  have e0 : ¬ k = 0 := by omega
  have e1 : ¬ k = 1 := by omega
  have e2 : ¬ k = 2 := by omega
  have e3 : ¬ k = 3 := by omega
  have e4 : ¬ k = 4 := by omega
  have e5 : ¬ k = 5 := by omega
  clear h
  go_enter Try.func14, Try.ntmps14
  go_wp2
  go_ret
  exact ⟨rfl, rfl⟩
theorem kwB_ne {k : Int} (h : 0 ≤ k ∧ k ≤ 5) : ¬ (kwB k).toList = [] := by
  obtain rfl | rfl | rfl | rfl | rfl | rfl := six h <;> (rw [ByteArray.toList_eq]; decide)
theorem kwB_full {k : Int} (h : 0 ≤ k ∧ k ≤ 5) : (kwB k).toList.isEmpty = false := by
  obtain rfl | rfl | rfl | rfl | rfl | rfl := six h <;> (rw [ByteArray.toList_eq]; decide)
/-- what undoes a kind -/
def kuI (k : Int) : Int := if k = 3 ∨ k = 4 then 5 else if k = 0 ∨ k = 1 then 2 else -1
theorem kw_no {A : ByteArray} (h : ∀ k : Nat, k ≤ 5 → kwB k ≠ A) : kwI A.data.toList = -1 :=
  kwI_no fun k h0 h5 e => by
    obtain ⟨m, rfl⟩ : ∃ m : Nat, k = m := ⟨k.toNat, by omega⟩
    exact h m (by omega) (by unfold kwB; rw [← e]; rfl)
set_option maxRecDepth 100000 in
set_option maxHeartbeats 1000000 in
theorem kwI_any (A : ByteArray) (w : World) :
    Calls Try.prog 26 #[.string A] w fun e w' => e = .returned (.int .i64 (kwI A.data.toList)) ∧ w = w' := by
  go_enter Try.func26, Try.ntmps26
  go_wp2
  go_loop [3] (fun i => ∃ k : Nat, k ≤ 6 ∧ i = .int .i64 k ∧ Hid (∀ j : Nat, j < k → kwB j ≠ A)) (fun i => 6 - (intOf i).toNat)
  case atStart => exact ⟨0, by omega, rfl, Lib.hid (by intro j h; omega)⟩
  case round =>
    obtain ⟨k, hk, rfl, hp⟩ := hrel
    by_cases hlt : k ≤ 5
    · have hkk : (k : Int) ≤ 5 := by omega
      by_cases he : kwB k = A
      · have q := str_same he
        have HR : Hid (kwI A.data.toList = k) := Lib.hid (by rw [← he]; unfold kwB; rw [bs_data]; exact kwI_T ⟨by omega, by omega⟩)
        have hki : 0 ≤ (k : Int) ∧ (k : Int) ≤ 5 := ⟨by omega, by omega⟩
        clear he
        go_wp2_with (go_at_call 14; refine (kwI_in (k : Int) _ hki).mono ?_; rintro e w' ⟨rfl, rfl⟩)
        go_ret
        exact ⟨by rw [HR.out]; rfl, rfl⟩
      · have q := str_other he
        have HN : Hid (∀ j : Nat, j < k + 1 → kwB j ≠ A) := Lib.hid (fun j hj => by
          by_cases r : j = k
          · subst r; exact he
          · exact hp.out j (by omega))
        have hki : 0 ≤ (k : Int) ∧ (k : Int) ≤ 5 := ⟨by omega, by omega⟩
        clear he
        go_wp2_with (go_at_call 14; refine (kwI_in (k : Int) _ hki).mono ?_; rintro e w' ⟨rfl, rfl⟩)
        go_round
        case rel => exact ⟨k + 1, by omega, by go_num, HN⟩
        case measure => simp [intOf]; omega
    · have hkk : decide ((k : Int) ≤ 5) = false := decide_eq_false (by omega)
      have HR := Lib.hid (kw_no (A := A) (fun j hj => hp.out j (by omega)))
      go_wp2
      go_ret
      exact ⟨by rw [HR.out]; rfl, rfl⟩
set_option maxRecDepth 100000 in
set_option maxHeartbeats 2000000 in
theorem ayI_valid (kind num : Int) (a b t : ByteArray) (w : World) (ma : a.size ≤ maxLen) (mb : b.size ≤ maxLen) (mt : t.size ≤ maxLen) :
    Calls Try.prog 13 #[.agg #[.int .i64 kind, .int .i64 num, .string a, .string b, .string t]] w (GotB (ayB ⟨kind, num, ⟨a, b⟩, t⟩) w) := by
  obtain ⟨w1, hw1⟩ : ∃ w1, w.alloc (.cells #[.int .i64 kind, .int .i64 num, .string a, .string b, .string t] 26) = w1 := ⟨_, rfl⟩
  have hB1 : Hid (Below w.heap.size w w1) := Lib.hid (by rw [← hw1]; exact (Below.refl _ _).alloc (Nat.le_refl _) _)
  have hrow := Lib.hid (fun wX (hX : Below w1.heap.size w1 wX) => row5 hw1 hX)
  obtain ⟨y0, y1, y2, y3, y4⟩ := hrow.out w1 (Below.refl _ _)
  rcases hk : inB kind 0 5 with _ | _
  · have HR := Lib.hid (ayB_kind (a := ⟨kind, num, ⟨a, b⟩, t⟩) hk)
    have H0 := Lib.hid hk
    clear hk
    go_enter Try.func13, Try.ntmps13
    go_wp2_with (go_at_call 14; refine (kwI_out kind _ H0.out).mono ?_; rintro e w' ⟨rfl, rfl⟩)
    go_ret
    exact ⟨ret_bool HR.out.symm, hB1.out⟩
  · have H0 := Lib.hid (inB_of hk)
    have g1 := kwB_ne (inB_of hk)
    have g2 := kwB_full (inB_of hk)
    rcases hn : inB num 0 1000000000 with _ | _
    · have HR := Lib.hid (ayB_num (a := ⟨kind, num, ⟨a, b⟩, t⟩) hn)
      have H1 := Lib.hid hn
      clear hk hn
      go_enter Try.func13, Try.ntmps13
      go_wp2_with (first | (go_at_call 14; ((with_reducible refine (kwI_in kind _ H0.out).mono ?_); rintro e w' ⟨rfl, rfl⟩)) | (go_at_call 32; ((with_reducible refine (num_any num _).mono ?_); rintro e w' ⟨rfl, rfl⟩; rw [H1.out])))
      go_ret
      exact ⟨ret_bool HR.out.symm, hB1.out⟩
    · have H1 := Lib.hid hn
      go_enter Try.func13, Try.ntmps13
      go_wp2_with (first | (go_at_call 14; ((with_reducible refine (kwI_in kind _ H0.out).mono ?_); rintro e w' ⟨rfl, rfl⟩)) | (go_at_call 32; ((with_reducible refine (num_any num _).mono ?_); rintro e w' ⟨rfl, rfl⟩; rw [H1.out])) | fail)
      refine (hnI_validM a b _ ma mb).mono ?_
      rintro e w3 ⟨rfl, hb3⟩
      have hB3 := Lib.hid (below_trans' hB1.out hb3)
      clear y0 y1 y2 y3 y4
      obtain ⟨y0, y1, y2, y3, y4⟩ := hrow.out w3 hb3
      clear hb3
      rcases hh : hnB ⟨a, b⟩ with _ | _
      · have HR := Lib.hid (ayB_who (a := ⟨kind, num, ⟨a, b⟩, t⟩) hh)
        clear hk hn hh
        go_wp2
        go_ret
        exact ⟨ret_bool HR.out.symm, hB3.out⟩
      · rcases hw : wordB t.data.toList with _ | _
        · have HR := Lib.hid (ayB_what (a := ⟨kind, num, ⟨a, b⟩, t⟩) hw)
          have HW := Lib.hid hw
          clear hk hn hh hw
          go_wp2_with (go_at_call 23; refine (word_any t _ mt).mono ?_; rintro e w' ⟨rfl, rfl⟩; rw [HW.out])
          go_ret
          exact ⟨ret_bool HR.out.symm, hB3.out⟩
        · have HR := Lib.hid (ayB_all (a := ⟨kind, num, ⟨a, b⟩, t⟩) hk hn hh hw)
          have HW := Lib.hid hw
          clear hk hn hh hw
          go_wp2_with (go_at_call 23; refine (word_any t _ mt).mono ?_; rintro e w' ⟨rfl, rfl⟩; rw [HW.out])
          go_ret
          exact ⟨ret_bool HR.out.symm, hB3.out⟩
/-- what the operations of the region yield -/
def QAyIT (bx : Nat) (kind num : Int) (a b t : ByteArray) (j : Nat) (v : Value) (w : World) : Prop :=
  match j with
  | 0 => v = .pointer (some ⟨bx, 0, none⟩)
  | 1 => v = .int .i64 kind
  | 2 => v = .string (kwB kind)
  | 3 => v = .string (kwB kind ++ ⟨#[32]⟩)
  | 4 => v = .pointer (some ⟨bx, 1, none⟩)
  | 5 => v = .int .i64 num
  | 6 => v = .string (bs (markT num))
  | 7 => v = .string (kwB kind ++ ⟨#[32]⟩ ++ bs (markT num))
  | 8 => v = .string (kwB kind ++ ⟨#[32]⟩ ++ bs (markT num) ++ ⟨#[32]⟩)
  | 9 => v = .pointer (some ⟨bx, 2, none⟩)
  | 10 => v = .agg #[.string a, .string b]
  | 11 => v = .string (bs (hnT ⟨a, b⟩))
  | 12 => v = .string (kwB kind ++ ⟨#[32]⟩ ++ bs (markT num) ++ ⟨#[32]⟩ ++ bs (hnT ⟨a, b⟩))
  | 13 => v = .string (kwB kind ++ ⟨#[32]⟩ ++ bs (markT num) ++ ⟨#[32]⟩ ++ bs (hnT ⟨a, b⟩) ++ ⟨#[32]⟩)
  | 14 => v = .pointer (some ⟨bx, 4, none⟩)
  | 15 => v = .string t
  | 16 => v = .string (kwB kind ++ ⟨#[32]⟩ ++ bs (markT num) ++ ⟨#[32]⟩ ++ bs (hnT ⟨a, b⟩) ++ ⟨#[32]⟩ ++ t)
  | 17 => v = .string (kwB kind ++ ⟨#[32]⟩ ++ bs (markT num) ++ ⟨#[32]⟩ ++ bs (hnT ⟨a, b⟩) ++ ⟨#[32]⟩ ++ t)
  | _ => False
theorem QAyIT_mono {bx : Nat} {kind num : Int} {a b t : ByteArray} (j : Nat) (v : Value) (w w' : World) (_ : j < 18) (h : QAyIT bx kind num a b t j v w) (hb : Below w.heap.size w w') : QAyIT bx kind num a b t j v w' := by
  match j, h with
  | 0, h => exact h
  | 1, h => exact h
  | 2, h => exact h
  | 3, h => exact h
  | 4, h => exact h
  | 5, h => exact h
  | 6, h => exact h
  | 7, h => exact h
  | 8, h => exact h
  | 9, h => exact h
  | 10, h => exact h
  | 11, h => exact h
  | 12, h => exact h
  | 13, h => exact h
  | 14, h => exact h
  | 15, h => exact h
  | 16, h => exact h
  | 17, h => exact h
set_option maxRecDepth 100000 in
set_option maxHeartbeats 4000000 in
theorem ayI_text (kind num : Int) (a b t : ByteArray) (w : World) (hf : FitAy ⟨kind, num, ⟨a, b⟩, t⟩) :
    Calls Try.prog 5 #[.agg #[.int .i64 kind, .int .i64 num, .string a, .string b, .string t]] w (GotStr (ayT ⟨kind, num, ⟨a, b⟩, t⟩) w) := by
  obtain ⟨fa, fb, ft⟩ := hf
  simp only at fa fb ft
  obtain ⟨w1, hw1⟩ : ∃ w1, w.alloc (.cells #[.int .i64 kind, .int .i64 num, .string a, .string b, .string t] 26) = w1 := ⟨_, rfl⟩
  have hB1 : Hid (Below w.heap.size w w1) := Lib.hid (by rw [← hw1]; exact (Below.refl _ _).alloc (Nat.le_refl _) _)
  have hrow := Lib.hid (fun wX (hX : Below w1.heap.size w1 wX) => row5 hw1 hX)
  obtain ⟨y0, y1, y2, y3, y4⟩ := hrow.out w1 (Below.refl _ _)
  go_enter Try.func5, Try.ntmps5
  go_wp2_with fail
  have hw1 := Lib.hid hw1
  refine (ayI_valid kind num a b t _ (fit_max fa) (fit_max fb) (fit_max ft)).mono ?_
  rintro e w2 ⟨rfl, hb2⟩
  have hK2 := Lib.hid hb2
  clear y0 y1 y2 y3 y4 hb2
  rcases hi : ayB ⟨kind, num, ⟨a, b⟩, t⟩ with _ | _
  · have HR := Lib.hid (ayT_out hi)
    clear hi
    go_wp2
    go_ret
    exact ⟨by rw [HR.out]; rfl, below_trans' hB1.out hK2.out⟩
  · obtain ⟨hk, hn, hh, hw⟩ := ayB_of hi
    have HR : Hid (ayT ⟨kind, num, ⟨a, b⟩, t⟩ = ayT1 ⟨kind, num, ⟨a, b⟩, t⟩) := Lib.hid (ayT_in hi)
    have hfh : FitHn ⟨a, b⟩ := fitHn_of hh
    have HT := Lib.hid (ay_bytes kind num a b t hh)
    simp only at hk hn
    have z0 : (kwB kind).size ≤ 6 := by unfold kwB; rw [bs_size]; exact kwT_len hk
    have z1 : (bs (markT num)).size ≤ 6 := by rw [bs_size]; exact markT_len num
    have z2 : (bs (hnT ⟨a, b⟩)).size ≤ 18 := by rw [bs_size]; exact hnT_len _
    have z3 : (⟨#[32]⟩ : ByteArray).size = 1 := rfl
    have n0 : ¬ (9223372036854775807 < (kwB kind).size + 1) := by omega
    have n1 : ¬ (9223372036854775807 < (kwB kind).size + 1 + (bs (markT num)).size) := by omega
    have n2 : ¬ (9223372036854775807 < (kwB kind).size + 1 + (bs (markT num)).size + 1) := by omega
    have n3 : ¬ (9223372036854775807 < (kwB kind).size + 1 + (bs (markT num)).size + 1 + (bs (hnT ⟨a, b⟩)).size) := by omega
    have n4 : ¬ (9223372036854775807 < (kwB kind).size + 1 + (bs (markT num)).size + 1 + (bs (hnT ⟨a, b⟩)).size + 1) := by omega
    have n5 : ¬ (9223372036854775807 < (kwB kind).size + 1 + (bs (markT num)).size + 1 + (bs (hnT ⟨a, b⟩)).size + 1 + t.size) := by omega
    have hrow2 := Lib.hid (fun wX (hX : Below w2.heap.size w2 wX) => hrow.out wX (below_trans' hK2.out hX))
    clear hi hn hh hw z0 z1 z2 z3
    go_wp2_with fail
    obtain ⟨Fr, hFr⟩ : ∃ Fr : (Nat → Value) → Act, Fr = (fun x => { tmps := #[.agg #[.int .i64 kind, .int .i64 num, .string a, .string b, .string t], .pointer (some ⟨w.heap.size, 0, none⟩), x 17, .agg #[.int .i64 kind, .int .i64 num, .string a, .string b, .string t], .bool true, .bool false, x 0, x 1, x 2, x 3, x 4, x 5, x 6, x 7, x 8, x 9, x 10, x 11, x 12, x 13, x 14, x 15, x 16], defers := [] }) := ⟨_, rfl⟩
    refine calm_region (n := 18) (by kernel_rfl) rfl Fr (QAyIT w.heap.size kind num a b t) (by kernel_rfl) (fun j => if j = 17 then .string ⟨#[]⟩ else undef) (by rw [hFr]; rfl) QAyIT_mono ?_ ?_
    · intro i o f x w4 hi ho hf hp hG hQ K hK
      subst hFr
      obtain rfl | rfl | rfl | rfl | rfl | rfl | rfl | rfl | rfl | rfl | rfl | rfl | rfl | rfl | rfl | rfl | rfl | rfl : i = 0 ∨ i = 1 ∨ i = 2 ∨ i = 3 ∨ i = 4 ∨ i = 5 ∨ i = 6 ∨ i = 7 ∨ i = 8 ∨ i = 9 ∨ i = 10 ∨ i = 11 ∨ i = 12 ∨ i = 13 ∨ i = 14 ∨ i = 15 ∨ i = 16 ∨ i = 17 := by omega
      · simp at ho
        subst ho
        rw [if_pos (by rfl)]
        go_simp
        have key := hK _ _ rfl (Below.refl _ _)
        simp [setX] at key
        exact key
      · simp at ho
        subst ho
        have p0 : f 0 = true := hp { on := 0, ground := .data } (by simp) rfl
        have q0 := hQ 0 (by omega) p0
        have q0 : x 0 = .pointer (some ⟨w.heap.size, 0, none⟩) := q0
        obtain ⟨y0, y1, y2, y3, y4⟩ := hrow2.out w4 hG
        rw [if_pos (by rfl)]
        go_simp
        have key := hK _ _ rfl (Below.refl _ _)
        simp [setX, q0] at key
        exact key
      · simp at ho
        subst ho
        have p1 : f 1 = true := hp { on := 1, ground := .data } (by simp) rfl
        have q1 := hQ 1 (by omega) p1
        have q1 : x 1 = .int .i64 kind := q1
        rw [if_pos (by rfl)]
        go_simp
        refine (kwI_in kind _ hk).mono ?_
        rintro e w5 ⟨rfl, rfl⟩
        have key := hK _ _ rfl (Below.refl _ _)
        simp [setX, q1] at key
        exact key
      · simp at ho
        subst ho
        have p2 : f 2 = true := hp { on := 2, ground := .data } (by simp) rfl
        have q2 := hQ 2 (by omega) p2
        have q2 : x 2 = .string (kwB kind) := q2
        rw [if_pos (by rfl)]
        go_simp
        have key := hK _ _ rfl (Below.refl _ _)
        simp [setX, q2] at key
        exact key
      · simp at ho
        subst ho
        rw [if_pos (by rfl)]
        go_simp
        have key := hK _ _ rfl (Below.refl _ _)
        simp [setX] at key
        exact key
      · simp at ho
        subst ho
        have p4 : f 4 = true := hp { on := 4, ground := .data } (by simp) rfl
        have q4 := hQ 4 (by omega) p4
        have q4 : x 4 = .pointer (some ⟨w.heap.size, 1, none⟩) := q4
        obtain ⟨y0, y1, y2, y3, y4⟩ := hrow2.out w4 hG
        rw [if_pos (by rfl)]
        go_simp
        have key := hK _ _ rfl (Below.refl _ _)
        simp [setX, q4] at key
        exact key
      · simp at ho
        subst ho
        have p5 : f 5 = true := hp { on := 5, ground := .data } (by simp) rfl
        have q5 := hQ 5 (by omega) p5
        have q5 : x 5 = .int .i64 num := q5
        rw [if_pos (by rfl)]
        go_simp
        refine (mark_any num _).mono ?_
        rintro e w5 ⟨rfl, rfl⟩
        have key := hK _ _ rfl (Below.refl _ _)
        simp [setX, q5] at key
        exact key
      · simp at ho
        subst ho
        have p3 : f 3 = true := hp { on := 3, ground := .data } (by simp) rfl
        have q3 := hQ 3 (by omega) p3
        have q3 : x 3 = .string (kwB kind ++ ⟨#[32]⟩) := q3
        have p6 : f 6 = true := hp { on := 6, ground := .data } (by simp) rfl
        have q6 := hQ 6 (by omega) p6
        have q6 : x 6 = .string (bs (markT num)) := q6
        rw [if_pos (by rfl)]
        go_simp
        have key := hK _ _ rfl (Below.refl _ _)
        simp [setX, q3, q6] at key
        exact key
      · simp at ho
        subst ho
        have p7 : f 7 = true := hp { on := 7, ground := .data } (by simp) rfl
        have q7 := hQ 7 (by omega) p7
        have q7 : x 7 = .string (kwB kind ++ ⟨#[32]⟩ ++ bs (markT num)) := q7
        rw [if_pos (by rfl)]
        go_simp
        have key := hK _ _ rfl (Below.refl _ _)
        simp [setX, q7] at key
        exact key
      · simp at ho
        subst ho
        rw [if_pos (by rfl)]
        go_simp
        have key := hK _ _ rfl (Below.refl _ _)
        simp [setX] at key
        exact key
      · simp at ho
        subst ho
        have p9 : f 9 = true := hp { on := 9, ground := .data } (by simp) rfl
        have q9 := hQ 9 (by omega) p9
        have q9 : x 9 = .pointer (some ⟨w.heap.size, 2, none⟩) := q9
        obtain ⟨y0, y1, y2, y3, y4⟩ := hrow2.out w4 hG
        rw [if_pos (by rfl)]
        go_simp
        have key := hK _ _ rfl (Below.refl _ _)
        simp [setX, q9] at key
        exact key
      · simp at ho
        subst ho
        have p10 : f 10 = true := hp { on := 10, ground := .data } (by simp) rfl
        have q10 := hQ 10 (by omega) p10
        have q10 : x 10 = .agg #[.string a, .string b] := q10
        rw [if_pos (by rfl)]
        go_simp
        refine (hnI_text a b _ hfh).mono ?_
        rintro e w5 ⟨rfl, hb5⟩
        have key := hK _ _ rfl hb5
        simp [setX, q10] at key
        exact key
      · simp at ho
        subst ho
        have p8 : f 8 = true := hp { on := 8, ground := .data } (by simp) rfl
        have q8 := hQ 8 (by omega) p8
        have q8 : x 8 = .string (kwB kind ++ ⟨#[32]⟩ ++ bs (markT num) ++ ⟨#[32]⟩) := q8
        have p11 : f 11 = true := hp { on := 11, ground := .data } (by simp) rfl
        have q11 := hQ 11 (by omega) p11
        have q11 : x 11 = .string (bs (hnT ⟨a, b⟩)) := q11
        rw [if_pos (by rfl)]
        go_simp
        have key := hK _ _ rfl (Below.refl _ _)
        simp [setX, q8, q11] at key
        exact key
      · simp at ho
        subst ho
        have p12 : f 12 = true := hp { on := 12, ground := .data } (by simp) rfl
        have q12 := hQ 12 (by omega) p12
        have q12 : x 12 = .string (kwB kind ++ ⟨#[32]⟩ ++ bs (markT num) ++ ⟨#[32]⟩ ++ bs (hnT ⟨a, b⟩)) := q12
        rw [if_pos (by rfl)]
        go_simp
        have key := hK _ _ rfl (Below.refl _ _)
        simp [setX, q12] at key
        exact key
      · simp at ho
        subst ho
        rw [if_pos (by rfl)]
        go_simp
        have key := hK _ _ rfl (Below.refl _ _)
        simp [setX] at key
        exact key
      · simp at ho
        subst ho
        have p14 : f 14 = true := hp { on := 14, ground := .data } (by simp) rfl
        have q14 := hQ 14 (by omega) p14
        have q14 : x 14 = .pointer (some ⟨w.heap.size, 4, none⟩) := q14
        obtain ⟨y0, y1, y2, y3, y4⟩ := hrow2.out w4 hG
        rw [if_pos (by rfl)]
        go_simp
        have key := hK _ _ rfl (Below.refl _ _)
        simp [setX, q14] at key
        exact key
      · simp at ho
        subst ho
        have p13 : f 13 = true := hp { on := 13, ground := .data } (by simp) rfl
        have q13 := hQ 13 (by omega) p13
        have q13 : x 13 = .string (kwB kind ++ ⟨#[32]⟩ ++ bs (markT num) ++ ⟨#[32]⟩ ++ bs (hnT ⟨a, b⟩) ++ ⟨#[32]⟩) := q13
        have p15 : f 15 = true := hp { on := 15, ground := .data } (by simp) rfl
        have q15 := hQ 15 (by omega) p15
        have q15 : x 15 = .string t := q15
        rw [if_pos (by rfl)]
        go_simp
        have key := hK _ _ rfl (Below.refl _ _)
        simp [setX, q13, q15] at key
        exact key
      · simp at ho
        subst ho
        have p16 : f 16 = true := hp { on := 16, ground := .data } (by simp) rfl
        have q16 := hQ 16 (by omega) p16
        have q16 : x 16 = .string (kwB kind ++ ⟨#[32]⟩ ++ bs (markT num) ++ ⟨#[32]⟩ ++ bs (hnT ⟨a, b⟩) ++ ⟨#[32]⟩ ++ t) := q16
        rw [if_pos (by rfl)]
        go_simp
        have key := hK _ _ rfl (Below.refl _ _)
        simp [setX, q16] at key
        exact key
    · intro x w4 hG hQ
      subst hFr
      have q17 : x 17 = .string (kwB kind ++ ⟨#[32]⟩ ++ bs (markT num) ++ ⟨#[32]⟩ ++ bs (hnT ⟨a, b⟩) ++ ⟨#[32]⟩ ++ t) := hQ 17 (by omega)
      have HX := hG
      clear hQ
      go_wp2
      go_ret
      exact ⟨by rw [HR.out, ← HT.out]; show Ending.returned (x 17) = _; rw [q17], below_trans' (below_trans' hB1.out hK2.out) HX⟩
theorem unD_kun {a : Ay} {n : Int} (h : kuI a.kind < 0) : unD a n = (Ay.zero, false) := unD_no (fun q => by
  obtain ⟨⟨h0, h5⟩, _⟩ := ayB_of q.1
  have := q.2.2.1
  have := q.2.2.2
  unfold kuI at h
  split at h
  · omega
  · split at h <;> omega)
theorem unD_kuy {a : Ay} {n : Int} (h : ¬ kuI a.kind < 0) (hb : ayB a = true) (hn : inB n 0 1000000000 = true) : unD a n = (⟨kuI a.kind, n, a.who, a.what⟩, true) := by
  have hn := inB_of hn
  unfold kuI at h ⊢
  by_cases h1 : a.kind = 3 ∨ a.kind = 4
  · rw [if_pos h1]; exact unD_un hb hn h1
  · rw [if_neg h1] at h ⊢
    by_cases h2 : a.kind = 0 ∨ a.kind = 1
    · rw [if_pos h2]; exact unD_del hb hn h2
    · rw [if_neg h2] at h; omega
theorem hnR_fits {s : List UInt8} {a b : ByteArray} {z : Bool} (h : hnR s = (⟨a, b⟩, z)) : a.size ≤ maxLen ∧ b.size ≤ maxLen := by
  cases z with
  | true => exact ⟨fit_max (fitHn_of (hnR_got h).1).1, fit_max (fitHn_of (hnR_got h).1).2⟩
  | false =>
    have := hnR_false h
    unfold Hn.zero at this
    injection this with h1 h2
    subst h1; subst h2
    exact ⟨by decide, by decide⟩
set_option maxRecDepth 100000 in
set_option maxHeartbeats 4000000 in
theorem ayI_read (s : ByteArray) (w : World) (hs : s.size ≤ 2200000000) :
    Calls Try.prog 9 #[.string s] w (GotAy (ayR s.data.toList) w) := by
  obtain ⟨w1, hw1⟩ : ∃ w1, w.alloc (.cells #[.int .i64 0, .int .i64 0, .string ⟨#[]⟩, .string ⟨#[]⟩, .string ⟨#[]⟩] 26) = w1 := ⟨_, rfl⟩
  have hb1 : Below w.heap.size w w1 := by rw [← hw1]; exact (Below.refl _ _).alloc (Nat.le_refl _) _
  have hs1 : w.heap.size < w1.heap.size := by rw [← hw1]; simp
  have hres := Lib.hid (fun wX (hX : Below w1.heap.size w1 wX) => row5 hw1 hX)
  have hfr := Lib.hid (fun wX (hX : Below w1.heap.size w1 wX) => frz hw1 hX)
  have hB1 := Lib.hid hb1
  have hrf : Hid (w.heap.size ≤ w.heap.size) := Lib.hid (Nat.le_refl _)
  clear hb1
  go_enter Try.func9, Try.ntmps9
  go_wp2_with fail
  have hw1 := Lib.hid hw1
  refine (cutI_any s 32 _ (by unfold maxLen; omega)).mono ?_
  rintro e w2 ⟨k, r1, hc1, hk, hr1, rfl, hb2⟩
  have hc1 := Lib.hid hc1
  go_wp2_with fail
  refine (cutI_any r1 32 _ (by unfold maxLen; omega)).mono ?_
  rintro e w3 ⟨n, r2, hc2, hn, hr2, rfl, hb3⟩
  have hc2 := Lib.hid hc2
  have hb3 := below_trans' hb2 hb3
  go_wp2_with fail
  refine (cutI_any r2 32 _ (by unfold maxLen; omega)).mono ?_
  rintro e w4 ⟨c, d, hc3, hc, hd, rfl, hb4⟩
  have hc3 := Lib.hid hc3
  have hb4 := below_trans' hb3 hb4
  go_wp2_with fail
  refine (hnI_readL c _ (by omega)).mono ?_
  rintro e w5 ⟨a, b, ok, hC, rfl, hb5⟩
  have hb5 := below_trans' hb4 hb5
  obtain ⟨ma, mb⟩ := hnR_fits hC
  have mn : n.size ≤ maxLen := by unfold maxLen; omega
  have md : d.size ≤ maxLen := by unfold maxLen; omega
  have HA := Lib.hid (ayR_cut hc1.out hc2.out hc3.out)
  have hW : Hid (ayW k.data.toList n.data.toList c.data.toList d = ⟨kwI k.data.toList, readM n.data.toList, ⟨a, b⟩, d⟩) := Lib.hid (by unfold ayW; rw [hC])
  have hS5 := hb5.size
  have hl5 : w.heap.size < w5.heap.size := by omega
  have hn5 : ¬ (w.heap.size = w5.heap.size) := by omega
  have HB5 := Lib.hid (below_trans' hB1.out hb5)
  have HK5 := Lib.hid hb5
  clear hb2 hb3 hb4 hb5 hc1 hc2 hc3 hC hk hr1 hn hr2 hc hd hS5 hs
  obtain ⟨w6, hw6⟩ : ∃ w6, w5.alloc (.cells #[.string a, .string b] 24) = w6 := ⟨_, rfl⟩
  have hb6 : Below w5.heap.size w5 w6 := by rw [← hw6]; exact (Below.refl _ _).alloc (Nat.le_refl _) _
  obtain ⟨r0, r1'⟩ := row2 hw6 (Below.refl _ _)
  have hl6 : w5.heap.size < w6.heap.size := by rw [← hw6]; simp
  go_wp2_with fail
  have hcel : Hid (∀ wX, Below w6.heap.size w6 wX → wX.cell? ⟨w5.heap.size, 0, none⟩ = some (.string a) ∧ wX.cell? ⟨w5.heap.size, 1, none⟩ = some (.string b)) := Lib.hid (fun wX hX => row2 hw6 hX)
  have hw6 := Lib.hid hw6
  have hB6 := Lib.hid (below_trans' HB5.out hb6)
  have hK6 := Lib.hid (below_trans' HK5.out hb6)
  have hn6 : ¬ (w5.heap.size = w6.heap.size) := by omega
  have hn6' : ¬ (w.heap.size = w6.heap.size) := by omega
  have hl6' : w.heap.size < w6.heap.size := by omega
  have f0 : w6.drew.cell? ⟨w5.heap.size, 0, none⟩ = some (.string a) := r0
  have f1 : w6.drew.cell? ⟨w5.heap.size, 1, none⟩ = some (.string b) := r1'
  clear hb6
  go_region_held3 (fun w' => w'.cell? ⟨w5.heap.size, 0, none⟩ = some (.string a) ∧ w'.cell? ⟨w5.heap.size, 1, none⟩ = some (.string b))
    (first | exact ⟨f0, f1⟩ | exact hcel.out _ (Below.drew ((Below.refl _ _).alloc (Nat.le_refl _) _)))
    (first
      | (go_at_call 26; refine (kwI_any k _).mono ?_; rintro e w' ⟨rfl, rfl⟩)
      | (go_at_call 27; refine (readm_any n _ mn).mono ?_; rintro e w' ⟨rfl, rfl⟩))
  all_goals
    obtain ⟨w7, hw7⟩ : ∃ w7, (w6.alloc (.cells #[.int .i64 (kwI k.data.toList), .int .i64 (readM n.data.toList), .string a, .string b, .string d] 26)).drew = w7 := ⟨_, rfl⟩
    have hb7 : Below w6.heap.size w6 w7 := by rw [← hw7]; exact Below.drew ((Below.refl _ _).alloc (Nat.le_refl _) _)
    have hy7 : Hid (w7.heap[w6.heap.size]? = some (.cells #[.int .i64 (kwI k.data.toList), .int .i64 (readM n.data.toList), .string a, .string b, .string d] 26 (0, 0))) := Lib.hid (by rw [← hw7]; exact heap_alloc_new w6 _)
    rw [hw7]
    have HK7 := Lib.hid (below_trans' hK6.out hb7)
    have HB7 := Lib.hid (below_trans' hB6.out hb7)
    have x0 := cell_of_row w7 w6.heap.size 0 _ _ (0, 0) hy7.out
    have x1 := cell_of_row w7 w6.heap.size 1 _ _ (0, 0) hy7.out
    have x2 := cell_of_row w7 w6.heap.size 2 _ _ (0, 0) hy7.out
    have x3 := cell_of_row w7 w6.heap.size 3 _ _ (0, 0) hy7.out
    have x4 := cell_of_row w7 w6.heap.size 4 _ _ (0, 0) hy7.out
    clear f0 f1 r0 r1' hw7 hb7
    go_wp2_with fail
    refine (ayI_valid _ _ a b d _ ma mb md).mono ?_
    rintro e w8 ⟨rfl, hb8⟩
    have hy8 : Hid (w8.heap[w6.heap.size]? = some (.cells #[.int .i64 (kwI k.data.toList), .int .i64 (readM n.data.toList), .string a, .string b, .string d] 26 (0, 0))) := Lib.hid ((hb8.block w6.heap.size (Array.getElem?_eq_some_iff.1 hy7.out).1).trans hy7.out)
    have HK8 := Lib.hid (below_trans' HK7.out hb8)
    have HW8 := Lib.hid (below_trans' HB7.out hb8)
    clear x0 x1 x2 x3 x4 hb8
    obtain ⟨z0, z1, z2, z3, z4⟩ := hres.out w8 HK8.out
    have zf := hfr.out w8 HK8.out
    have x0 := cell_of_row w8 w6.heap.size 0 _ _ (0, 0) hy8.out
    have x1 := cell_of_row w8 w6.heap.size 1 _ _ (0, 0) hy8.out
    have x2 := cell_of_row w8 w6.heap.size 2 _ _ (0, 0) hy8.out
    have x3 := cell_of_row w8 w6.heap.size 3 _ _ (0, 0) hy8.out
    have x4 := cell_of_row w8 w6.heap.size 4 _ _ (0, 0) hy8.out
    rcases hv : ayB ⟨kwI k.data.toList, readM n.data.toList, ⟨a, b⟩, d⟩ with _ | _
    · have HR : Hid (ayR s.data.toList = (Ay.zero, false)) := Lib.hid (by rw [HA.out, hW.out, hv]; rfl)
      clear hv
      go_wp2
      refine bodyPost_ret (v := .tuple #[.agg #[.int .i64 0, .int .i64 0, .string ⟨#[]⟩, .string ⟨#[]⟩, .string ⟨#[]⟩], .bool false]) (by simp [results, Try.results9, go_sem, z0, z1, z2, z3, z4]) rfl ⟨by rw [HR.out]; rfl, ?_⟩
      repeat (first | with_reducible exact HW8.out | with_reducible refine Below.setCell ?_ hrf.out _)
    · have HR : Hid (ayR s.data.toList = (⟨kwI k.data.toList, readM n.data.toList, ⟨a, b⟩, d⟩, true)) := Lib.hid (by rw [HA.out, hW.out, hv]; rfl)
      clear hv
      go_wp2
      refine bodyPost_ret (v := .tuple #[.agg #[.int .i64 (kwI k.data.toList), .int .i64 (readM n.data.toList), .string a, .string b, .string d], .bool true]) (by simp [results, Try.results9, go_sem, z0, z1, z2, z3, z4]) rfl ⟨by rw [HR.out]; rfl, ?_⟩
      repeat (first | with_reducible exact HW8.out | with_reducible refine Below.setCell ?_ hrf.out _)
end Go.Proofs.Ytolkgamfoopnjaa
