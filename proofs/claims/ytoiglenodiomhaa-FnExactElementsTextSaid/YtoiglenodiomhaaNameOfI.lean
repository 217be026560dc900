/-
  The verifier's own text: NameOfI.
-/
import Derived.Test.YtoiglenodiomhaaRows
import Derived.Test.YtoiglenodiomhaaNameI
import Derived.WalkKit
import Derived.ProofKit
import Derived.Below
import Derived.Lib.Hide
import Derived.Outline
import Derived.BigQuiet
import Derived.Deep.QuietTactic
import Derived.Deep.Draws
import Derived.Laws.OwnMore
import Derived.Laws.Rows
import Derived.WalkSpells
import Derived.Deep.RegionWith
namespace Go.Proofs.Ytoiglenodiomhaa
open Go.RowKit
set_option linter.unusedVariables false
theorem table_lit (w : World) :
    Calls Try.prog 59 #[] w fun e w' => e = .returned (.slice (some ⟨w.heap.size, 0, none⟩) 4 4) ∧ w.alloc (.cells #[.int .u8 38, .string (bs [38, 97, 109, 112, 59]), .int .u8 60, .string (bs [38, 108, 116, 59]), .int .u8 62, .string (bs [38, 103, 116, 59]), .int .u8 34, .string (bs [38, 113, 117, 111, 116, 59])] 74) = w' := table_any w
set_option maxHeartbeats 1000000 in
theorem nameOf_any (c : UInt8) (w : World) :
    Calls Try.prog 53 #[.int .u8 c.toNat] w (GotStr (nmL c) w) := by
  have hc := nm_cases c
  have ne : ∀ d : UInt8, c ≠ d → (((d.toNat : Nat) : Int) == ((c.toNat : Nat) : Int)) = false := by
    intro d h; rw [beq_eq_false_iff_ne]; intro e; apply h; apply UInt8.toNat_inj.1; omega
  rcases hc with ⟨rfl, h⟩ | ⟨rfl, h⟩ | ⟨rfl, h⟩ | ⟨rfl, h⟩ | ⟨a1, a2, a3, a4, h⟩
  · clear ne
    have h := Lib.hid h
    go_enter Try.func53, Try.ntmps53
    go_wp2_with (go_at_call 59; refine (table_lit _).mono ?_; rintro e w1 ⟨rfl, rfl⟩)
    refine wp_loop_rounds 1 ?_
    rw [rounds_succ]; go_wp2
    go_ret
    exact ⟨by rw [h.out]; rfl, by repeat (first | exact Below.refl _ _ | refine Below.alloc ?_ (by simp <;> omega) _ | refine Below.setCell ?_ (by simp <;> omega) _)⟩
  · clear ne
    have h := Lib.hid h
    go_enter Try.func53, Try.ntmps53
    go_wp2_with (go_at_call 59; refine (table_lit _).mono ?_; rintro e w1 ⟨rfl, rfl⟩)
    refine wp_loop_rounds 2 ?_
    rw [rounds_succ]; go_wp2
    rw [rounds_succ]; go_wp2
    go_ret
    exact ⟨by rw [h.out]; rfl, by repeat (first | exact Below.refl _ _ | refine Below.alloc ?_ (by simp <;> omega) _ | refine Below.setCell ?_ (by simp <;> omega) _)⟩
  · clear ne
    have h := Lib.hid h
    go_enter Try.func53, Try.ntmps53
    go_wp2_with (go_at_call 59; refine (table_lit _).mono ?_; rintro e w1 ⟨rfl, rfl⟩)
    refine wp_loop_rounds 3 ?_
    rw [rounds_succ]; go_wp2
    rw [rounds_succ]; go_wp2
    rw [rounds_succ]; go_wp2
    go_ret
    exact ⟨by rw [h.out]; rfl, by repeat (first | exact Below.refl _ _ | refine Below.alloc ?_ (by simp <;> omega) _ | refine Below.setCell ?_ (by simp <;> omega) _)⟩
  · clear ne
    have h := Lib.hid h
    go_enter Try.func53, Try.ntmps53
    go_wp2_with (go_at_call 59; refine (table_lit _).mono ?_; rintro e w1 ⟨rfl, rfl⟩)
    refine wp_loop_rounds 4 ?_
    rw [rounds_succ]; go_wp2
    rw [rounds_succ]; go_wp2
    rw [rounds_succ]; go_wp2
    rw [rounds_succ]; go_wp2
    go_ret
    exact ⟨by rw [h.out]; rfl, by repeat (first | exact Below.refl _ _ | refine Below.alloc ?_ (by simp <;> omega) _ | refine Below.setCell ?_ (by simp <;> omega) _)⟩
  · have h := Lib.hid h
    have b1 : ((38 : Int) == (c.toNat : Int)) = false := ne 38 a1
    have b2 : ((60 : Int) == (c.toNat : Int)) = false := ne 60 a2
    have b3 : ((62 : Int) == (c.toNat : Int)) = false := ne 62 a3
    have b4 : ((34 : Int) == (c.toNat : Int)) = false := ne 34 a4
    clear ne a1 a2 a3 a4
    go_enter Try.func53, Try.ntmps53
    go_wp2_with (go_at_call 59; refine (table_lit _).mono ?_; rintro e w1 ⟨rfl, rfl⟩)
    refine wp_loop_rounds 5 ?_
    rw [rounds_succ]; go_wp2
    rw [rounds_succ]; go_wp2
    rw [rounds_succ]; go_wp2
    rw [rounds_succ]; go_wp2
    rw [rounds_succ]; go_wp2
    go_ret
    exact ⟨by rw [h.out]; rfl, by repeat (first | exact Below.refl _ _ | refine Below.alloc ?_ (by simp <;> omega) _ | refine Below.setCell ?_ (by simp <;> omega) _)⟩
end Go.Proofs.Ytoiglenodiomhaa
