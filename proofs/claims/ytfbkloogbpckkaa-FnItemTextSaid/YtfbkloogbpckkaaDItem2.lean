/-
  The verifier's own text: DItem2.
-/
import Derived.Test.YtfbkloogbpckkaaRows
import Derived.Test.YtfbkloogbpckkaaDItem
import Derived.Test.YtfbkloogbpckkaaItemTS
import Derived.WalkKit
import Derived.ProofKit
import Derived.Below
import Derived.Lib.Hide
import Derived.Outline
import Derived.BigQuiet
import Derived.Deep.QuietTactic
import Derived.Deep.Draws
import Derived.Laws.OwnMore
import Derived.Laws.Rows
import Derived.WalkSpells
import Derived.Deep.RegionWith
namespace Go.Proofs.Ytfbkloogbpckkaa
open Go.RowKit
set_option linter.unusedVariables false
theorem codeArg_below {w w' : World} {A : Option Addr} {n c : Nat} (h : CodeArg w A n c) (hb : Below w.heap.size w w') : CodeArg w' A n c := by
  obtain ⟨h1, h2, h3⟩ := h
  refine ⟨h1, h2, fun hn => ?_⟩
  obtain ⟨ad, rfl, hlt, hc⟩ := h3 hn
  refine ⟨ad, rfl, Nat.lt_of_lt_of_le hlt hb.size, fun i hi => ?_⟩
  obtain ⟨z, a, b⟩ := hc i hi
  exact ⟨z, (hb.cell (p := ad.add i) (by rw [add_block]; exact hlt)).trans a, b⟩
/-- the result's variable, as the call made it, behind whatever kept it -/
theorem zeroI {w w1 wX : World} (hw : w.alloc (.cells #[.string ⟨#[]⟩, .string ⟨#[]⟩, .string ⟨#[]⟩, .int .i64 0] 24) = w1) (hB : Below w1.heap.size w1 wX) :
    wX.cell? ⟨w.heap.size, 0, none⟩ = some (.string ⟨#[]⟩) ∧ wX.cell? ⟨w.heap.size, 1, none⟩ = some (.string ⟨#[]⟩) ∧ wX.cell? ⟨w.heap.size, 2, none⟩ = some (.string ⟨#[]⟩) ∧ wX.cell? ⟨w.heap.size, 3, none⟩ = some (.int .i64 0) ∧ (∀ j, wX.frozen? ⟨w.heap.size, j, none⟩ = false) ∧ Below w.heap.size w wX := by
  subst hw
  have hrow := heap_alloc_new w (.cells #[.string ⟨#[]⟩, .string ⟨#[]⟩, .string ⟨#[]⟩, .int .i64 0] 24)
  have hX := (hB.block w.heap.size (by simp)).trans hrow
  refine ⟨cell_of_row _ w.heap.size 0 _ _ (0, 0) hX, cell_of_row _ w.heap.size 1 _ _ (0, 0) hX, cell_of_row _ w.heap.size 2 _ _ (0, 0) hX, cell_of_row _ w.heap.size 3 _ _ (0, 0) hX, fun j => by simp [World.frozen?, hX], ?_⟩
  exact ((Below.refl _ _).alloc (Nat.le_refl _) _).trans (hB.mono (by simp))
theorem rd_below {W w w' : World} {g m : Nat} (h : Rd W w g m) (hb : Below w.heap.size w w') : Rd W w' g m := by
  obtain ⟨A, n, c, p, hh, hp, hc⟩ := h.hd
  exact ⟨h.bel.trans (hb.mono h.bel.size), h.lo, A, n, c, p, (hb.block g h.lt).trans hh, hp, hc⟩
def DrawnI (w : World) (e : Ending) (w' : World) : Prop := ∃ (k t b : ByteArray) (d : Int), e = .returned (.agg #[.string k, .string t, .string b, .int .i64 d]) ∧ ShortI ⟨k, t, b, d⟩ ∧ Below w.heap.size w w'
set_option maxRecDepth 100000 in
set_option maxHeartbeats 1000000 in
theorem drawIV_any (w : World) (A : Option Addr) (n c : Nat) (h : CodeArg w A n c) : Calls Try.prog 9 #[.slice A n c] w (DrawnI w) := by
  obtain ⟨w1, hw1⟩ : ∃ w1, w.alloc (.cells #[.string ⟨#[]⟩, .string ⟨#[]⟩, .string ⟨#[]⟩, .int .i64 0] 24) = w1 := ⟨_, rfl⟩
  have h1 : CodeArg w1 A n c := codeArg_below h (by rw [← hw1]; exact (Below.refl _ _).alloc (Nat.le_refl _) _)
  go_enter Try.func9, Try.ntmps9
  go_wp2_with fail
  have hw1 := Lib.hid hw1
  refine (open_any w1 A n c h1).mono ?_
  rintro e w2 ⟨rfl, hr2⟩
  go_wp2_with fail
  refine (item_draw w1 w2 w1.heap.size 0 2 hr2 (by omega) (by omega) (by omega)).mono ?_
  rintro e w3 ⟨k, t, b, d, rfl, hsh, hr3, _⟩
  obtain ⟨z0, z1, z2, z3, zf, hbw⟩ := zeroI hw1.out hr3.bel
  have HBw := Lib.hid hbw
  clear hbw hr2 hr3
  go_wp2
  refine bodyPost_ret (v := .agg #[.string k, .string t, .string b, .int .i64 d]) (by simp [results, Try.results9, go_sem, z0, z1, z2, z3]) rfl ⟨k, t, b, d, rfl, hsh, ?_⟩
  exact (((HBw.out.setCell (Nat.le_refl _) _).setCell (Nat.le_refl _) _).setCell (Nat.le_refl _) _).setCell (Nat.le_refl _) _
set_option maxRecDepth 100000 in
set_option maxHeartbeats 1000000 in
theorem drawIT_any (w : World) (A : Option Addr) (n c : Nat) (h : CodeArg w A n c) : Calls Try.prog 13 #[.slice A n c] w (DrawnI w) := by
  obtain ⟨w1, hw1⟩ : ∃ w1, w.alloc (.cells #[.string ⟨#[]⟩, .string ⟨#[]⟩, .string ⟨#[]⟩, .int .i64 0] 24) = w1 := ⟨_, rfl⟩
  have h1 : CodeArg w1 A n c := codeArg_below h (by rw [← hw1]; exact (Below.refl _ _).alloc (Nat.le_refl _) _)
  go_enter Try.func13, Try.ntmps13
  go_wp2_with fail
  have hw1 := Lib.hid hw1
  refine (open_any w1 A n c h1).mono ?_
  rintro e w2 ⟨rfl, hr2⟩
  go_wp2_with fail
  refine (item_draw w1 w2 w1.heap.size 0 6 hr2 (by omega) (by omega) (by omega)).mono ?_
  rintro e w3 ⟨k, t, b, d, rfl, hsh, hr3, _⟩
  obtain ⟨z0, z1, z2, z3, zf, hbw⟩ := zeroI hw1.out hr3.bel
  have HBw := Lib.hid hbw
  clear hbw hr2 hr3
  go_wp2
  refine bodyPost_ret (v := .agg #[.string k, .string t, .string b, .int .i64 d]) (by simp [results, Try.results13, go_sem, z0, z1, z2, z3]) rfl ⟨k, t, b, d, rfl, hsh, ?_⟩
  exact (((HBw.out.setCell (Nat.le_refl _) _).setCell (Nat.le_refl _) _).setCell (Nat.le_refl _) _).setCell (Nat.le_refl _) _
set_option maxRecDepth 100000 in
set_option maxHeartbeats 2000000 in
theorem drawIR_any (w : World) (A : Option Addr) (n c : Nat) (h : CodeArg w A n c) : Calls Try.prog 17 #[.slice A n c] w (DrawnStr w 5000) := by
  go_enter Try.func17, Try.ntmps17
  go_wp2_with fail
  refine (open_any w A n c h).mono ?_
  rintro e w2 ⟨rfl, hr2⟩
  go_wp2_with fail
  refine (item_draw w w2 w.heap.size 0 0 hr2 (by omega) (by omega) (by omega)).mono ?_
  rintro e w3 ⟨k, t, b, d, rfl, hsh, hr3, _⟩
  have hfi : FitI ⟨k, t, b, d⟩ := by
    obtain ⟨a1, a2, a3⟩ := hsh
    exact ⟨by omega, by omega, by omega⟩
  go_wp2_with fail
  refine (itS_text k t b d w3 hfi).mono ?_
  rintro e w4 ⟨rfl, hb4⟩
  have hr4 : Rd w w4 w.heap.size (0 + 12) := rd_below hr3 hb4
  have hs : (bs (itT ⟨k, t, b, d⟩)).size ≤ 4008 := by rw [bs_size]; exact itT_len _
  obtain ⟨s, hs'⟩ : ∃ s, bs (itT ⟨k, t, b, d⟩) = s := ⟨_, rfl⟩
  rw [hs'] at hs ⊢
  clear hs' hb4 hr3 hr2 hsh hfi
  go_wp2_with fail
  refine (odd_any w _ w.heap.size (0 + 12) 3 hr4 (by omega) (by omega) (by omega)).mono ?_
  rintro e w6 ⟨bb, rfl, hr6, _⟩
  have z1 : (⟨#[60, 107, 101, 121, 62, 107, 60, 47, 107, 101, 121, 62]⟩ : ByteArray).size = 12 := rfl
  have z2 : (⟨#[60, 111, 116, 104, 101, 114, 62, 120, 60, 47, 111, 116, 104, 101, 114, 62]⟩ : ByteArray).size = 16 := rfl
  have s1 : s.size + (⟨#[60, 107, 101, 121, 62, 107, 60, 47, 107, 101, 121, 62]⟩ : ByteArray).size ≤ 9223372036854775807 := by omega
  have s2 : s.size + (⟨#[60, 111, 116, 104, 101, 114, 62, 120, 60, 47, 111, 116, 104, 101, 114, 62]⟩ : ByteArray).size ≤ 9223372036854775807 := by omega
  have s3 : (⟨#[60, 111, 116, 104, 101, 114, 62, 120, 60, 47, 111, 116, 104, 101, 114, 62]⟩ : ByteArray).size + s.size ≤ 9223372036854775807 := by omega
  have L1 := Lib.hid (show (s ++ ⟨#[60, 107, 101, 121, 62, 107, 60, 47, 107, 101, 121, 62]⟩ : ByteArray).size ≤ 5000 by rw [ByteArray.size_append]; omega)
  have L2 := Lib.hid (show (s ++ ⟨#[60, 111, 116, 104, 101, 114, 62, 120, 60, 47, 111, 116, 104, 101, 114, 62]⟩ : ByteArray).size ≤ 5000 by rw [ByteArray.size_append]; omega)
  have L3 := Lib.hid (show (⟨#[60, 111, 116, 104, 101, 114, 62, 120, 60, 47, 111, 116, 104, 101, 114, 62]⟩ ++ s : ByteArray).size ≤ 5000 by rw [ByteArray.size_append]; omega)
  clear z1 z2
  rcases bb with _ | _
  · go_wp2
    go_ret
    exact ⟨_, by omega, rfl, hr6.bel⟩
  · go_wp2_with fail
    refine (pick_any w _ w.heap.size (0 + 12 + 1) 7 (hr6.alloc _) (by omega)).mono ?_
    rintro e w7 ⟨v4, a4, b4, _, rfl, hr7, hg7⟩
    have b4 := b4 (by omega)
    have k0 := cell_kept hg7 hr6.lt
    clear hg7
    obtain rfl | rfl | rfl | rfl | rfl | rfl | rfl : v4 = 0 ∨ v4 = 1 ∨ v4 = 2 ∨ v4 = 3 ∨ v4 = 4 ∨ v4 = 5 ∨ v4 = 6 := by omega
    all_goals
      go_wp2
      go_ret
      first
        | exact ⟨_, by decide, rfl, hr7.bel⟩
        | exact ⟨_, L1.out, rfl, hr7.bel⟩
        | exact ⟨_, L2.out, rfl, hr7.bel⟩
        | exact ⟨_, L3.out, rfl, hr7.bel⟩
end Go.Proofs.Ytfbkloogbpckkaa
