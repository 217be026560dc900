/-
  'FnExactItemText' answers true at every input, and each argument reads behind the call as before. Conditions: none.
-/
import Derived.Test.YtomalmehnidhkaaRows
import Derived.Test.YtomalmehnidhkaaGn
import Derived.Test.YtomalmehnidhkaaGo
import Derived.Test.YtomalmehnidhkaaGp
import Derived.WalkKit
import Derived.ProofKit
import Derived.Below
import Derived.Lib.Hide
import Derived.Outline
import Derived.BigQuiet
import Derived.Deep.QuietTactic
import Derived.Deep.Draws
import Derived.Laws.OwnMore
import Derived.Laws.Rows
import Derived.WalkSpells
import Derived.Deep.RegionWith
import Derived.OpenShut
import Derived.ShutString
import Derived.ChangeOld
namespace Go.Proofs.Ytomalmehnidhkaa.fnExactItemText
open Go.ChangeShapes Go.WideShapes Go.ChangeAt Go.RowKit
open Go.ChangeMaps (open_string shut_string)
set_option linter.unusedVariables false
theorem own : ownKnob Try.prog.godebug = none := by kernel_rfl
theorem laidOut : laidOutB Try.prog = true := by kernel_rfl
set_option maxRecDepth 100000 in
set_option maxHeartbeats 4000000 in
theorem walk (ky0 : ByteArray) (ti0 : ByteArray) (bo0 : ByteArray) (da0 : Int) (w : World) (w0 : ArgIt ky0 ti0 bo0 da0) :
    Calls Try.prog 7 #[.agg #[.string ky0, .string ti0, .string bo0, .int .i64 da0]] w fun e w' => e = .returned (.bool true) ∧ Below w.heap.size w w' := by
  obtain ⟨m0, m1, m2, _⟩ := w0
  obtain ⟨w1, hw1⟩ : ∃ w1, w.alloc (.cells #[.string ky0, .string ti0, .string bo0, .int .i64 da0] 33) = w1 := ⟨_, rfl⟩
  have hb01 : Below w.heap.size w w1 := by rw [← hw1]; exact (Below.refl _ _).alloc (Nat.le_refl _) _
  have hb01 := Lib.hid hb01
  obtain ⟨r0, r1, r2, r3⟩ := row4 hw1 (Below.refl _ _)
  go_enter Try.func7, Try.ntmps7
  go_wp2_with fail
  have hw1 := Lib.hid hw1
  refine (szI_any ky0 ti0 bo0 da0 1048576 _ m0 m1 m2 (by omega) (by omega)).mono ?_
  rintro e w2 ⟨r, rfl, hr1, hr2, hb2⟩
  have hb2 := Lib.hid hb2
  clear r0 r1 r2 r3
  by_cases hneg : r < 0
  · go_wp2
    go_ret
    exact ⟨rfl, below_trans' hb01.out hb2.out⟩
  · have hz := hr2 (by omega)
    have hfi : FitI ⟨ky0, ti0, bo0, da0⟩ := by
      obtain ⟨a1, a2, a3⟩ := hz
      exact ⟨by show ky0.size ≤ _; omega, by show ti0.size ≤ _; omega, by show bo0.size ≤ _; omega⟩
    clear hr2 hz
    have q := str_same (a := bs (itT ⟨ky0, ti0, bo0, da0⟩)) (b := bs (itT ⟨ky0, ti0, bo0, da0⟩)) rfl
    obtain ⟨r0, r1, r2, r3⟩ := row4 hw1.out hb2.out
    go_wp2_with fail
    refine (toI_any ky0 ti0 bo0 da0 _).mono ?_
    rintro e w3 ⟨rfl, hb3⟩
    have hb3 := Lib.hid (below_trans' hb2.out hb3)
    go_wp2_with fail
    refine (itS_text ky0 ti0 bo0 da0 _ hfi).mono ?_
    rintro e w4 ⟨rfl, hb4⟩
    have hb4 := Lib.hid (below_trans' hb3.out hb4)
    clear r0 r1 r2 r3
    obtain ⟨r0, r1, r2, r3⟩ := row4 hw1.out hb4.out
    go_wp2_with fail
    refine (toI_any ky0 ti0 bo0 da0 _).mono ?_
    rintro e w5 ⟨rfl, hb5⟩
    have hb5 := Lib.hid (below_trans' hb4.out hb5)
    go_wp2_with fail
    refine (itI_text ky0 ti0 bo0 da0 _ hfi).mono ?_
    rintro e w6 ⟨rfl, hb6⟩
    have hb6 := Lib.hid (below_trans' hb5.out hb6)
    go_wp2
    go_ret
    exact ⟨rfl, below_trans' hb01.out hb6.out⟩
set_option maxRecDepth 100000 in
theorem lifted (os : Os) (started : os.Started) (H : Type) (enc : TypeId × Value → H) :
    ReturnsInHanded {} Try.checked os 7 .any (Rows.fnExactItemTextSpec.pre6 enc Try.prog Try.f7 Rows.fnExactItemTextRow.domain false) (Rows.fnExactItemTextSpec.post enc Try.prog Try.f7 false true false false) := by
  refine returnsInHanded_of_change (C := Try.checked) own started (by kernel_rfl) Try.func7
    (ChangeSpec.witness6 (enc := enc) (C := Try.checked) false ⟨#[], #[.agg #[.string ByteArray.empty, .string ByteArray.empty, .string ByteArray.empty, .int .i64 0]], []⟩ 8 (by kernel_rfl) (by kernel_rfl) (by kernel_rfl) (by kernel_rfl)) ?_
  intro W base args ds gs before hval0 hW hcnd _
  have hval : ∀ (j : Nat) t v, Try.f7.params[j]? = some t → args[j]? = some v → Value.okWide Try.prog W .any base t v := hval0
  have hW' := hW
  obtain ⟨p, q, hA0, hV, rfl, hfz, hnd⟩ := hW
  have hA : DataW.TrodAll enc Try.prog W 0 (fun _ => true) true Try.f7.params.toList args.toList ds p := hA0
  rw [Try.params7] at hA hval
  obtain ⟨v0, vs0, d0, ds0, p0, q0, hargs, rfl, rfl, h0, r0⟩ := trodAll_cons hA
  obtain ⟨rfl, rfl, rfl⟩ := trodAll_nil r0
  obtain rfl : args = #[v0] := by cases args; simp_all
  obtain ⟨rfl, rfl⟩ := trodVars_none hV
  have k0 := h0
  have lt0 : ∀ x ∈ p0, x.block < W.heap.size := by obtain ⟨m, hm⟩ := k0; exact DataW.trod_lt m _ _ _ hm
  obtain ⟨ky0, ti0, bo0, da0, rfl, w0⟩ := argIt (hval 0 33 v0 rfl rfl) h0
  clear hA0 hval0
  refine (walk ky0 ti0 bo0 da0 W w0).mono fun e W' ⟨he, bel⟩ => ?_
  subst he
  exact ⟨_, rfl, _, _, _, [], _, [], hW', trodAll_mk1 (shut_bool Try.underlying4 _), (trodAll_cons_mk (Below.trod laidOut (by kernel_rfl) (of_decide_eq_true (by kernel_rfl)) k0 bel lt0) trodAll_mk0), rfl, bel.frame _, fun h => by cases h⟩
theorem over : Rows.fnExactItemTextRow.holds Try.pinned (OpenSpec.ofChange Rows.fnExactItemTextSpec) :=
  OpenClaim.holds_of_wide 7 Try.f7 rfl rfl rfl rfl rfl rfl rfl ⟨rfl, rfl, rfl, rfl, rfl⟩ rfl rfl rfl rfl rfl (by kernel_rfl) Try.func7 (by kernel_rfl)
    (of_decide_eq_true (by kernel_rfl)) (by unfold Func.isWrapper; first | (rw [if_pos (by decide +kernel)]; kernel_rfl) | (rw [if_neg (by decide +kernel)]; exact ⟨rfl, rfl⟩))
    (fun os started H enc _ => lifted os started H enc)
theorem proved : Rows.FnExactItemTextSaid := over
#print axioms proved
end Go.Proofs.Ytomalmehnidhkaa.fnExactItemText
