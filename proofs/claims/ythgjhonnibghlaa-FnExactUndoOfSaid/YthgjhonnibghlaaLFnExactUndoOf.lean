/-
  'FnExactUndoOf' answers true at every input, and each argument reads behind the call as before. Conditions: none.
-/
import Derived.Test.YthgjhonnibghlaaRows
import Derived.Test.YthgjhonnibghlaaHM
import Derived.Test.YthgjhonnibghlaaHH
import Derived.WalkKit
import Derived.ProofKit
import Derived.Below
import Derived.Lib.Hide
import Derived.Outline
import Derived.BigQuiet
import Derived.Deep.QuietTactic
import Derived.Deep.Draws
import Derived.Laws.OwnMore
import Derived.Laws.Rows
import Derived.WalkSpells
import Derived.Deep.RegionWith
import Derived.OpenShut
import Derived.ShutString
import Derived.ChangeOld
namespace Go.Proofs.Ythgjhonnibghlaa.fnExactUndoOf
open Go.ChangeShapes Go.WideShapes Go.ChangeAt Go.RowKit
open Go.ChangeMaps (open_string shut_string)
set_option linter.unusedVariables false
theorem own : ownKnob Try.prog.godebug = none := by kernel_rfl
theorem laidOut : laidOutB Try.prog = true := by kernel_rfl
set_option maxRecDepth 100000 in
set_option maxHeartbeats 4000000 in
theorem walk (kind0 : Int) (num0 : Int) (who_name0 : ByteArray) (who_host0 : ByteArray) (what0 : ByteArray) (a1 : Int) (w : World) (w0 : InAy ⟨kind0, num0, ⟨who_name0, who_host0⟩, what0⟩) (w1 : (Lit.int .i64 a1).wf = true) :
    Calls Try.prog 11 #[.agg #[.int .i64 kind0, .int .i64 num0, .string who_name0, .string who_host0, .string what0], .int .i64 a1] w fun e w' => e = .returned (.bool true) ∧ Below w.heap.size w w' := by
  obtain ⟨w1', hw1⟩ : ∃ w1', w.alloc (.cells #[.int .i64 kind0, .int .i64 num0, .string who_name0, .string who_host0, .string what0] 41) = w1' := ⟨_, rfl⟩
  have hb01 : Below w.heap.size w w1' := by rw [← hw1]; exact (Below.refl _ _).alloc (Nat.le_refl _) _
  have hb01 := Lib.hid hb01
  obtain ⟨r0, r1, r2, r3, r4⟩ := row5 hw1 (Below.refl _ _)
  go_enter Try.func11, Try.ntmps11
  go_wp2_with fail
  have hw1 := Lib.hid hw1
  refine (szAy_any kind0 num0 who_name0 who_host0 what0 1048576 _ w0 (by omega) (by omega)).mono ?_
  rintro e w2 ⟨r, rfl, hr1, hr2, hb2⟩
  have hb2 := Lib.hid hb2
  clear r0 r1 r2 r3 r4
  by_cases hneg : r < 0
  · go_wp2
    go_ret
    exact ⟨rfl, below_trans' hb01.out hb2.out⟩
  · have hfi : FitAy ⟨kind0, num0, ⟨who_name0, who_host0⟩, what0⟩ := fitAy_sz (hr2 (by omega))
    clear hr2
    obtain ⟨⟨⟨kind, num, ⟨na, ho⟩, what⟩, z⟩, hP⟩ : ∃ P, unD ⟨kind0, num0, ⟨who_name0, who_host0⟩, what0⟩ a1 = P := ⟨_, rfl⟩
    have HP := Lib.hid hP
    clear hP
    obtain ⟨r0, r1, r2, r3, r4⟩ := row5 hw1.out hb2.out
    go_wp2_with fail
    refine (toAy_any kind0 num0 who_name0 who_host0 what0 _).mono ?_
    rintro e w3 ⟨rfl, hb3⟩
    have hb3 := Lib.hid (below_trans' hb2.out hb3)
    clear r0 r1 r2 r3 r4
    go_wp2_with fail
    refine (ayS_undo kind0 num0 who_name0 who_host0 what0 a1 _ hfi).mono ?_
    rw [HP.out]
    rintro e w4 ⟨rfl, hb4⟩
    simp only [aggAy]
    obtain ⟨w5, hw5⟩ : ∃ w5, w4.alloc (.cells #[.int .i64 kind, .int .i64 num, .string na, .string ho, .string what] 26) = w5 := ⟨_, rfl⟩
    have hb45 : Below w4.heap.size w4 w5 := by rw [← hw5]; exact (Below.refl _ _).alloc (Nat.le_refl _) _
    have hb5 := Lib.hid (below_trans' (below_trans' hb3.out hb4) hb45)
    clear hb4 hb45
    obtain ⟨r0, r1, r2, r3, r4⟩ := row5 hw1.out hb5.out
    go_wp2_with fail
    have hw5 := Lib.hid hw5
    refine (toAy_any kind0 num0 who_name0 who_host0 what0 _).mono ?_
    rintro e w6 ⟨rfl, hb6⟩
    have hk6 := Lib.hid hb6
    clear r0 r1 r2 r3 r4 hb6
    go_wp2_with fail
    refine (ayI_undo kind0 num0 who_name0 who_host0 what0 a1 _ hfi).mono ?_
    rw [HP.out]
    rintro e w7 ⟨rfl, hb7⟩
    simp only [aggAy]
    obtain ⟨w8, hw8⟩ : ∃ w8, w7.alloc (.cells #[.int .i64 kind, .int .i64 num, .string na, .string ho, .string what] 26) = w8 := ⟨_, rfl⟩
    have hb78 : Below w7.heap.size w7 w8 := by rw [← hw8]; exact (Below.refl _ _).alloc (Nat.le_refl _) _
    have hk8 := Lib.hid (below_trans' (below_trans' hk6.out hb7) hb78)
    clear hb7 hb78
    obtain ⟨x0, x1, x2, x3, x4⟩ := row5 hw8 (Below.refl _ _)
    obtain ⟨y0, y1, y2, y3, y4⟩ := row5 hw5.out hk8.out
    go_wp2_with fail
    have hw8 := Lib.hid hw8
    refine (eqAy_any _ _ _ _ _ _).mono ?_
    rintro e w9 ⟨rfl, hb9⟩
    have hb9 := Lib.hid (below_trans' (below_trans' (below_trans' hb01.out hb5.out) hk8.out) hb9)
    go_wp2
    go_ret
    exact ⟨rfl, hb9.out⟩
set_option maxRecDepth 100000 in
theorem lifted (os : Os) (started : os.Started) (H : Type) (enc : TypeId × Value → H) :
    ReturnsInHanded {} Try.checked os 11 .any (Rows.fnExactUndoOfSpec.pre6 enc Try.prog Try.f11 Rows.fnExactUndoOfRow.domain false) (Rows.fnExactUndoOfSpec.post enc Try.prog Try.f11 false true false false) := by
  refine returnsInHanded_of_change (C := Try.checked) own started (by kernel_rfl) Try.func11
    (ChangeSpec.witness6 (enc := enc) (C := Try.checked) false ⟨#[], #[.agg #[.int .i64 0, .int .i64 0, .string ByteArray.empty, .string ByteArray.empty, .string ByteArray.empty], .int .i64 0], []⟩ 8 (by kernel_rfl) (by kernel_rfl) (by kernel_rfl) (by kernel_rfl)) ?_
  intro W base args ds gs before hval0 hW hcnd _
  have hval : ∀ (j : Nat) t v, Try.f11.params[j]? = some t → args[j]? = some v → Value.okWide Try.prog W .any base t v := hval0
  have hW' := hW
  obtain ⟨p, q, hA0, hV, rfl, hfz, hnd⟩ := hW
  have hA : DataW.TrodAll enc Try.prog W 0 (fun _ => true) true Try.f11.params.toList args.toList ds p := hA0
  rw [Try.params11] at hA hval
  obtain ⟨v0, vs0, d0, ds0, p0, q0, hargs, rfl, rfl, h0, r0⟩ := trodAll_cons hA
  obtain ⟨v1, vs1, d1, ds1, p1, q1, rfl, rfl, rfl, h1, r1⟩ := trodAll_cons r0
  obtain ⟨rfl, rfl, rfl⟩ := trodAll_nil r1
  obtain rfl : args = #[v0, v1] := by cases args; simp_all
  obtain ⟨rfl, rfl⟩ := trodVars_none hV
  have k0 := h0
  have lt0 : ∀ x ∈ p0, x.block < W.heap.size := by obtain ⟨m, hm⟩ := k0; exact DataW.trod_lt m _ _ _ hm
  obtain ⟨kind0, num0, who_name0, who_host0, what0, rfl, w0⟩ := argAy (hval 0 41 v0 rfl rfl) h0
  have k1 := h1
  have lt1 : ∀ x ∈ p1, x.block < W.heap.size := by obtain ⟨m, hm⟩ := k1; exact DataW.trod_lt m _ _ _ hm
  obtain ⟨a1, rfl, _, _, w1⟩ := open_int Try.underlying3 (hval 1 3 v1 rfl rfl) h1
  clear hA0 hval0
  refine (walk kind0 num0 who_name0 who_host0 what0 a1 W w0 w1).mono fun e W' ⟨he, bel⟩ => ?_
  subst he
  exact ⟨_, rfl, _, _, _, [], _, [], hW', trodAll_mk1 (shut_bool Try.underlying4 _), (trodAll_cons_mk (Below.trod laidOut (by kernel_rfl) (of_decide_eq_true (by kernel_rfl)) k0 bel lt0) (trodAll_cons_mk (Below.trod laidOut (by kernel_rfl) (of_decide_eq_true (by kernel_rfl)) k1 bel lt1) trodAll_mk0)), rfl, bel.frame _, fun h => by cases h⟩
theorem over : Rows.fnExactUndoOfRow.holds Try.pinned (OpenSpec.ofChange Rows.fnExactUndoOfSpec) :=
  OpenClaim.holds_of_wide 11 Try.f11 rfl rfl rfl rfl rfl rfl rfl ⟨rfl, rfl, rfl, rfl, rfl⟩ rfl rfl rfl rfl rfl (by kernel_rfl) Try.func11 (by kernel_rfl)
    (of_decide_eq_true (by kernel_rfl)) (by unfold Func.isWrapper; first | (rw [if_pos (by decide +kernel)]; kernel_rfl) | (rw [if_neg (by decide +kernel)]; exact ⟨rfl, rfl⟩))
    (fun os started H enc _ => lifted os started H enc)
theorem proved : Rows.FnExactUndoOfSaid := over
#print axioms proved
end Go.Proofs.Ythgjhonnibghlaa.fnExactUndoOf
