/-
  'FnExactHandleBefore' answers true at every input, and each argument reads behind the call as before. Conditions: none.
-/
import Derived.Test.YtkglbbghgaijnaaRows
import Derived.Test.YtkglbbghgaijnaaHA
import Derived.Deep.RegionHeld3
import Derived.WalkKit
import Derived.ProofKit
import Derived.Below
import Derived.Lib.Hide
import Derived.Outline
import Derived.BigQuiet
import Derived.Deep.QuietTactic
import Derived.Deep.Draws
import Derived.Laws.OwnMore
import Derived.Laws.Rows
import Derived.WalkSpells
import Derived.Deep.RegionWith
import Derived.OpenShut
import Derived.ShutString
import Derived.ChangeOld
namespace Go.Proofs.Ytkglbbghgaijnaa.fnExactHandleBefore
open Go.ChangeShapes Go.WideShapes Go.ChangeAt Go.RowKit
open Go.ChangeMaps (open_string shut_string)
set_option linter.unusedVariables false
theorem own : ownKnob Try.prog.godebug = none := by kernel_rfl
theorem laidOut : laidOutB Try.prog = true := by kernel_rfl
set_option maxRecDepth 100000 in
set_option maxHeartbeats 4000000 in
theorem walk (name0 : ByteArray) (host0 : ByteArray) (name1 : ByteArray) (host1 : ByteArray) (w : World) (w0 : InHn ⟨name0, host0⟩) (w1 : InHn ⟨name1, host1⟩) :
    Calls Try.prog 9 #[.agg #[.string name0, .string host0], .agg #[.string name1, .string host1]] w fun e w' => e = .returned (.bool true) ∧ Below w.heap.size w w' := by
  have m1 := w1
  clear w1
  obtain ⟨w1, hw1⟩ : ∃ w1, w.alloc (.cells #[.string name0, .string host0] 36) = w1 := ⟨_, rfl⟩
  obtain ⟨w2, hw2⟩ : ∃ w2, w1.alloc (.cells #[.string name1, .string host1] 36) = w2 := ⟨_, rfl⟩
  have hb01 : Below w.heap.size w w1 := by rw [← hw1]; exact (Below.refl _ _).alloc (Nat.le_refl _) _
  have hb12 : Below w1.heap.size w1 w2 := by rw [← hw2]; exact (Below.refl _ _).alloc (Nat.le_refl _) _
  have hb02 := Lib.hid (below_trans' hb01 hb12)
  have hrow : ∀ wX, Below w2.heap.size w2 wX → (wX.cell? ⟨w.heap.size, 0, none⟩ = some (.string name0) ∧ wX.cell? ⟨w.heap.size, 1, none⟩ = some (.string host0)) ∧ (wX.cell? ⟨w1.heap.size, 0, none⟩ = some (.string name1) ∧ wX.cell? ⟨w1.heap.size, 1, none⟩ = some (.string host1)) := fun wX hX => ⟨row2 hw1 (below_trans' hb12 hX), row2 hw2 hX⟩
  have hrow := Lib.hid hrow
  obtain ⟨⟨r0, r1⟩, ⟨p0, p1⟩⟩ := hrow.out w2 (Below.refl _ _)
  clear hb01 hb12
  go_enter Try.func9, Try.ntmps9
  go_wp2_with fail
  have hw1 := Lib.hid hw1
  have hw2 := Lib.hid hw2
  refine (szHn_any name0 host0 1048576 _ w0 (by omega) (by omega)).mono ?_
  rintro e w3 ⟨r, rfl, hr1, hr2, hb3⟩
  have hb3 := Lib.hid hb3
  clear r0 r1 p0 p1
  by_cases hneg : r < 0
  · go_wp2
    go_ret
    exact ⟨rfl, below_trans' hb02.out hb3.out⟩
  · clear hr2
    obtain ⟨⟨r0, r1⟩, ⟨p0, p1⟩⟩ := hrow.out w3 hb3.out
    go_wp2_with fail
    refine (szHn_any name1 host1 r _ m1 (by omega) (by omega)).mono ?_
    rintro e w4 ⟨r2, rfl, hr3, hr4, hb4⟩
    have hb4 := Lib.hid (below_trans' hb3.out hb4)
    clear r0 r1 p0 p1 hr4
    by_cases hneg2 : r2 < 0
    · go_wp2
      go_ret
      exact ⟨rfl, below_trans' hb02.out hb4.out⟩
    · have HS : ∀ wX, Below w2.heap.size w2 wX → (fun w' => w'.cell? ⟨w.heap.size, 0, none⟩ = some (.string name0) ∧ w'.cell? ⟨w.heap.size, 1, none⟩ = some (.string host0) ∧ w'.cell? ⟨w1.heap.size, 0, none⟩ = some (.string name1) ∧ w'.cell? ⟨w1.heap.size, 1, none⟩ = some (.string host1) ∧ Hid (Below w2.heap.size w2 w')) wX := fun wX hX => by
        obtain ⟨⟨r0, r1⟩, ⟨p0, p1⟩⟩ := hrow.out wX hX
        exact ⟨r0, r1, p0, p1, Lib.hid hX⟩
      have HS := Lib.hid HS
      have hS := Lib.hid (HS.out _ (Below.drew hb4.out))
      go_wp2
      go_region_held3 (fun w' => w'.cell? ⟨w.heap.size, 0, none⟩ = some (.string name0) ∧ w'.cell? ⟨w.heap.size, 1, none⟩ = some (.string host0) ∧ w'.cell? ⟨w1.heap.size, 0, none⟩ = some (.string name1) ∧ w'.cell? ⟨w1.heap.size, 1, none⟩ = some (.string host1) ∧ Hid (Below w2.heap.size w2 w'))
        (first | exact hS.out | exact hS5.out | exact hS6.out | exact hS7.out)
        (first | (go_at_call 22; ((with_reducible refine (toHn_any name0 host0 _).mono ?_); rintro e w5 ⟨rfl, hb5⟩; go_split_ands; have hS5 := Lib.hid (HS.out _ (below_trans' (Hid.out (by assumption)) hb5)))) | (go_at_call 22; ((with_reducible refine (toHn_any name1 host1 _).mono ?_); rintro e w6 ⟨rfl, hb6⟩; go_split_ands; have hS6 := Lib.hid (HS.out _ (below_trans' (Hid.out (by assumption)) hb6)))) | (go_at_call 20; ((with_reducible refine (hnLS_any name0 host0 name1 host1 _).mono ?_); rintro e w7 ⟨rfl, hb7⟩; go_split_ands; have hS7 := Lib.hid (HS.out _ (below_trans' (Hid.out (by assumption)) hb7)))))
      go_split_ands
      rename Hid (Below w2.heap.size w2 _) => hT
      clear hS
      have hS := Lib.hid (HS.out _ (Below.drew hT.out))
      go_wp2
      go_region_held3 (fun w' => w'.cell? ⟨w.heap.size, 0, none⟩ = some (.string name0) ∧ w'.cell? ⟨w.heap.size, 1, none⟩ = some (.string host0) ∧ w'.cell? ⟨w1.heap.size, 0, none⟩ = some (.string name1) ∧ w'.cell? ⟨w1.heap.size, 1, none⟩ = some (.string host1) ∧ Hid (Below w2.heap.size w2 w'))
        (first | exact hS.out | exact hS5.out | exact hS6.out | exact hS7.out)
        (first | (go_at_call 22; ((with_reducible refine (toHn_any name0 host0 _).mono ?_); rintro e w5 ⟨rfl, hb5⟩; go_split_ands; have hS5 := Lib.hid (HS.out _ (below_trans' (Hid.out (by assumption)) hb5)))) | (go_at_call 22; ((with_reducible refine (toHn_any name1 host1 _).mono ?_); rintro e w6 ⟨rfl, hb6⟩; go_split_ands; have hS6 := Lib.hid (HS.out _ (below_trans' (Hid.out (by assumption)) hb6)))) | (go_at_call 19; ((with_reducible refine (hnLI_any name0 host0 name1 host1 _).mono ?_); rintro e w7 ⟨rfl, hb7⟩; go_split_ands; have hS7 := Lib.hid (HS.out _ (below_trans' (Hid.out (by assumption)) hb7)))))
      go_split_ands
      rename Hid (Below w2.heap.size w2 _) => hU
      go_wp2
      go_ret
      exact ⟨rfl, below_trans' hb02.out hU.out⟩
set_option maxRecDepth 100000 in
theorem lifted (os : Os) (started : os.Started) (H : Type) (enc : TypeId × Value → H) :
    ReturnsInHanded {} Try.checked os 9 .any (Rows.fnExactHandleBeforeSpec.pre6 enc Try.prog Try.f9 Rows.fnExactHandleBeforeRow.domain false) (Rows.fnExactHandleBeforeSpec.post enc Try.prog Try.f9 false true false false) := by
  refine returnsInHanded_of_change (C := Try.checked) own started (by kernel_rfl) Try.func9
    (ChangeSpec.witness6 (enc := enc) (C := Try.checked) false ⟨#[], #[.agg #[.string ByteArray.empty, .string ByteArray.empty], .agg #[.string ByteArray.empty, .string ByteArray.empty]], []⟩ 8 (by kernel_rfl) (by kernel_rfl) (by kernel_rfl) (by kernel_rfl)) ?_
  intro W base args ds gs before hval0 hW hcnd _
  have hval : ∀ (j : Nat) t v, Try.f9.params[j]? = some t → args[j]? = some v → Value.okWide Try.prog W .any base t v := hval0
  have hW' := hW
  obtain ⟨p, q, hA0, hV, rfl, hfz, hnd⟩ := hW
  have hA : DataW.TrodAll enc Try.prog W 0 (fun _ => true) true Try.f9.params.toList args.toList ds p := hA0
  rw [Try.params9] at hA hval
  obtain ⟨v0, vs0, d0, ds0, p0, q0, hargs, rfl, rfl, h0, r0⟩ := trodAll_cons hA
  obtain ⟨v1, vs1, d1, ds1, p1, q1, rfl, rfl, rfl, h1, r1⟩ := trodAll_cons r0
  obtain ⟨rfl, rfl, rfl⟩ := trodAll_nil r1
  obtain rfl : args = #[v0, v1] := by cases args; simp_all
  obtain ⟨rfl, rfl⟩ := trodVars_none hV
  have k0 := h0
  have lt0 : ∀ x ∈ p0, x.block < W.heap.size := by obtain ⟨m, hm⟩ := k0; exact DataW.trod_lt m _ _ _ hm
  obtain ⟨name0, host0, rfl, w0⟩ := argHn (hval 0 36 v0 rfl rfl) h0
  have k1 := h1
  have lt1 : ∀ x ∈ p1, x.block < W.heap.size := by obtain ⟨m, hm⟩ := k1; exact DataW.trod_lt m _ _ _ hm
  obtain ⟨name1, host1, rfl, w1⟩ := argHn (hval 1 36 v1 rfl rfl) h1
  clear hA0 hval0
  refine (walk name0 host0 name1 host1 W w0 w1).mono fun e W' ⟨he, bel⟩ => ?_
  subst he
  exact ⟨_, rfl, _, _, _, [], _, [], hW', trodAll_mk1 (shut_bool Try.underlying4 _), (trodAll_cons_mk (Below.trod laidOut (by kernel_rfl) (of_decide_eq_true (by kernel_rfl)) k0 bel lt0) (trodAll_cons_mk (Below.trod laidOut (by kernel_rfl) (of_decide_eq_true (by kernel_rfl)) k1 bel lt1) trodAll_mk0)), rfl, bel.frame _, fun h => by cases h⟩
theorem over : Rows.fnExactHandleBeforeRow.holds Try.pinned (OpenSpec.ofChange Rows.fnExactHandleBeforeSpec) :=
  OpenClaim.holds_of_wide 9 Try.f9 rfl rfl rfl rfl rfl rfl rfl ⟨rfl, rfl, rfl, rfl, rfl⟩ rfl rfl rfl rfl rfl (by kernel_rfl) Try.func9 (by kernel_rfl)
    (of_decide_eq_true (by kernel_rfl)) (by unfold Func.isWrapper; first | (rw [if_pos (by decide +kernel)]; kernel_rfl) | (rw [if_neg (by decide +kernel)]; exact ⟨rfl, rfl⟩))
    (fun os started H enc _ => lifted os started H enc)
theorem proved : Rows.FnExactHandleBeforeSaid := over
#print axioms proved
end Go.Proofs.Ytkglbbghgaijnaa.fnExactHandleBefore
