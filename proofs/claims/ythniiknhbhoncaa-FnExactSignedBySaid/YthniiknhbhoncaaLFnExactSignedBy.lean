/-
  'FnExactSignedBy' answers true at every input, and each argument reads behind the call as before. Conditions: none.
-/
import Derived.Test.YthniiknhbhoncaaRows
import Derived.Test.YthniiknhbhoncaaJD
import Derived.Deep.RegionHeld3
import Derived.WalkKit
import Derived.ProofKit
import Derived.Below
import Derived.Lib.Hide
import Derived.Outline
import Derived.BigQuiet
import Derived.Deep.QuietTactic
import Derived.Deep.Draws
import Derived.Laws.OwnMore
import Derived.Laws.Rows
import Derived.WalkSpells
import Derived.Deep.RegionWith
import Derived.OpenShut
import Derived.ShutString
import Derived.ChangeOld
namespace Go.Proofs.Ythniiknhbhoncaa.fnExactSignedBy
open Go.ChangeShapes Go.WideShapes Go.ChangeAt Go.RowKit
open Go.ChangeMaps (open_string shut_string)
set_option linter.unusedVariables false
theorem own : ownKnob Try.prog.godebug = none := by kernel_rfl
theorem laidOut : laidOutB Try.prog = true := by kernel_rfl
set_option maxRecDepth 100000 in
set_option maxHeartbeats 4000000 in
theorem walk (text0 : ByteArray) (modulus0 : Int) (exp0 : Int) (sig0 : Int) (one1 : Int) (two1 : Int) (exp1 : Int) (w : World) (w0 : InSg ⟨text0, modulus0, exp0, sig0⟩) (w1 : InKy ⟨one1, two1, exp1⟩) :
    Calls Try.prog 8 #[.agg #[.string text0, .int .i64 modulus0, .int .i64 exp0, .int .i64 sig0], .agg #[.int .i64 one1, .int .i64 two1, .int .i64 exp1]] w fun e w' => e = .returned (.bool true) ∧ Below w.heap.size w w' := by
  have hin0 := w0
  clear w0
  have hin1 := w1
  clear w1
  obtain ⟨b0, hb0⟩ : ∃ b0, w.alloc (.cells #[.string text0, .int .i64 modulus0, .int .i64 exp0, .int .i64 sig0] 44) = b0 := ⟨_, rfl⟩
  have hbb0 : Below w.heap.size w b0 := by rw [← hb0]; exact (Below.refl _ _).alloc (Nat.le_refl _) _
  obtain ⟨b1, hb1⟩ : ∃ b1, b0.alloc (.cells #[.int .i64 one1, .int .i64 two1, .int .i64 exp1] 40) = b1 := ⟨_, rfl⟩
  have hbb1 : Below b0.heap.size b0 b1 := by rw [← hb1]; exact (Below.refl _ _).alloc (Nat.le_refl _) _
  have hBb := Lib.hid (below_trans' (hbb0) hbb1)
  have hrow : ∀ wX, Below b1.heap.size b1 wX → wX.cell? ⟨w.heap.size, 0, none⟩ = some (.string text0) ∧ wX.cell? ⟨w.heap.size, 1, none⟩ = some (.int .i64 modulus0) ∧ wX.cell? ⟨w.heap.size, 2, none⟩ = some (.int .i64 exp0) ∧ wX.cell? ⟨w.heap.size, 3, none⟩ = some (.int .i64 sig0) ∧ wX.cell? ⟨b0.heap.size, 0, none⟩ = some (.int .i64 one1) ∧ wX.cell? ⟨b0.heap.size, 1, none⟩ = some (.int .i64 two1) ∧ wX.cell? ⟨b0.heap.size, 2, none⟩ = some (.int .i64 exp1) := fun wX hX => by
    obtain ⟨y0_0, y0_1, y0_2, y0_3⟩ := row4 hb0 (below_trans' hbb1 hX)
    obtain ⟨y1_0, y1_1, y1_2⟩ := row3 hb1 hX
    exact ⟨y0_0, y0_1, y0_2, y0_3, y1_0, y1_1, y1_2⟩
  have hrow := Lib.hid hrow
  have hN := Lib.hid (Below.refl b1.heap.size b1)
  clear hbb0 hbb1
  have hB := Lib.hid hBb.out
  go_enter Try.func8, Try.ntmps8
  obtain ⟨y0_0, y0_1, y0_2, y0_3, y1_0, y1_1, y1_2⟩ := hrow.out _ hN.out
  go_wp2_with fail
  have hb0 := Lib.hid hb0
  have hb1 := Lib.hid hb1
  refine (szSg_any text0 modulus0 exp0 sig0 1048576 _ hin0 (by omega) (by omega)).mono ?_
  rintro e w11 ⟨r0, rfl, hr0, hs_0, hb11_⟩
  clear y0_0 y0_1 y0_2 y0_3 y1_0 y1_1 y1_2
  replace hB := Lib.hid (below_trans' hB.out hb11_)
  replace hN := Lib.hid (below_trans' hN.out hb11_)
  clear hb11_
  by_cases hneg0 : r0 < 0
  · go_wp2
    go_ret
    exact ⟨rfl, hB.out⟩
  · have hsz0 := hs_0 (by omega)
    have hfit0 := fitSg_sz hsz0
    clear hs_0 hsz0
    have HSS : ∀ wX, Below b1.heap.size b1 wX → (fun w' => w'.cell? ⟨w.heap.size, 0, none⟩ = some (.string text0) ∧ w'.cell? ⟨w.heap.size, 1, none⟩ = some (.int .i64 modulus0) ∧ w'.cell? ⟨w.heap.size, 2, none⟩ = some (.int .i64 exp0) ∧ w'.cell? ⟨w.heap.size, 3, none⟩ = some (.int .i64 sig0) ∧ w'.cell? ⟨b0.heap.size, 0, none⟩ = some (.int .i64 one1) ∧ w'.cell? ⟨b0.heap.size, 1, none⟩ = some (.int .i64 two1) ∧ w'.cell? ⟨b0.heap.size, 2, none⟩ = some (.int .i64 exp1) ∧ Hid (Below b1.heap.size b1 w')) wX := fun wX hX => by
      obtain ⟨y0_0, y0_1, y0_2, y0_3, y1_0, y1_1, y1_2⟩ := hrow.out _ hX
      exact ⟨y0_0, y0_1, y0_2, y0_3, y1_0, y1_1, y1_2, Lib.hid hX⟩
    have HSS := Lib.hid HSS
    have hS0S := Lib.hid (HSS.out _ (Below.drew hN.out))
    skip
    go_wp2
    go_region_held3 (fun w' => w'.cell? ⟨w.heap.size, 0, none⟩ = some (.string text0) ∧ w'.cell? ⟨w.heap.size, 1, none⟩ = some (.int .i64 modulus0) ∧ w'.cell? ⟨w.heap.size, 2, none⟩ = some (.int .i64 exp0) ∧ w'.cell? ⟨w.heap.size, 3, none⟩ = some (.int .i64 sig0) ∧ w'.cell? ⟨b0.heap.size, 0, none⟩ = some (.int .i64 one1) ∧ w'.cell? ⟨b0.heap.size, 1, none⟩ = some (.int .i64 two1) ∧ w'.cell? ⟨b0.heap.size, 2, none⟩ = some (.int .i64 exp1) ∧ Hid (Below b1.heap.size b1 w'))
      (first | exact hS0S.out | exact hSS1.out | exact hSS2.out | exact hSS3.out)
      (first
        | (go_at_call 24; ((with_reducible refine (toSg_any text0 modulus0 exp0 sig0 _).mono ?_); rintro e wS1 ⟨rfl, hbT0⟩; go_split_ands; have hSS1 := Lib.hid (HSS.out _ (below_trans' (Hid.out (by assumption)) hbT0)); have hB_S1 := Lib.hid (below_trans' (Below.drew hB.out) hbT0)))
        | (go_at_call 21; ((with_reducible refine (toKy_any one1 two1 exp1 _).mono ?_); rintro e wS2 ⟨rfl, hbT1⟩; go_split_ands; have hSS2 := Lib.hid (HSS.out _ (below_trans' (Hid.out (by assumption)) hbT1)); have hB_S2 := Lib.hid (below_trans' hB_S1.out hbT1)))
        | (go_at_call 19; ((with_reducible refine (sgS_by text0 modulus0 exp0 sig0 one1 two1 exp1 _ (fitSg_text hfit0)).mono ?_); rintro e wS3 ⟨rfl, hbF⟩; go_split_ands; have hSS3 := Lib.hid (HSS.out _ (below_trans' (Hid.out (by assumption)) hbF)); have hB_S3 := Lib.hid (below_trans' hB_S2.out hbF))))
    go_split_ands
    rename Hid (Below b1.heap.size b1 _) => hNX
    replace hN := hNX
    replace hB := hB_S3
    obtain ⟨MP, hMP⟩ : ∃ MP, sgY ⟨text0, modulus0, exp0, sig0⟩ ⟨one1, two1, exp1⟩ = MP := ⟨_, rfl⟩
    replace hMP := Lib.hid hMP
    rw [hMP.out]
    have HSI : ∀ wX, Below b1.heap.size b1 wX → (fun w' => w'.cell? ⟨w.heap.size, 0, none⟩ = some (.string text0) ∧ w'.cell? ⟨w.heap.size, 1, none⟩ = some (.int .i64 modulus0) ∧ w'.cell? ⟨w.heap.size, 2, none⟩ = some (.int .i64 exp0) ∧ w'.cell? ⟨w.heap.size, 3, none⟩ = some (.int .i64 sig0) ∧ w'.cell? ⟨b0.heap.size, 0, none⟩ = some (.int .i64 one1) ∧ w'.cell? ⟨b0.heap.size, 1, none⟩ = some (.int .i64 two1) ∧ w'.cell? ⟨b0.heap.size, 2, none⟩ = some (.int .i64 exp1) ∧ Hid (Below b1.heap.size b1 w')) wX := fun wX hX => by
      obtain ⟨y0_0, y0_1, y0_2, y0_3, y1_0, y1_1, y1_2⟩ := hrow.out _ hX
      exact ⟨y0_0, y0_1, y0_2, y0_3, y1_0, y1_1, y1_2, Lib.hid hX⟩
    have HSI := Lib.hid HSI
    have hS0I := Lib.hid (HSI.out _ (Below.drew hN.out))
    skip
    go_wp2
    go_region_held3 (fun w' => w'.cell? ⟨w.heap.size, 0, none⟩ = some (.string text0) ∧ w'.cell? ⟨w.heap.size, 1, none⟩ = some (.int .i64 modulus0) ∧ w'.cell? ⟨w.heap.size, 2, none⟩ = some (.int .i64 exp0) ∧ w'.cell? ⟨w.heap.size, 3, none⟩ = some (.int .i64 sig0) ∧ w'.cell? ⟨b0.heap.size, 0, none⟩ = some (.int .i64 one1) ∧ w'.cell? ⟨b0.heap.size, 1, none⟩ = some (.int .i64 two1) ∧ w'.cell? ⟨b0.heap.size, 2, none⟩ = some (.int .i64 exp1) ∧ Hid (Below b1.heap.size b1 w'))
      (first | exact hS0I.out | exact hSI1.out | exact hSI2.out | exact hSI3.out)
      (first
        | (go_at_call 24; ((with_reducible refine (toSg_any text0 modulus0 exp0 sig0 _).mono ?_); rintro e wI1 ⟨rfl, hbT0⟩; go_split_ands; have hSI1 := Lib.hid (HSI.out _ (below_trans' (Hid.out (by assumption)) hbT0)); have hB_I1 := Lib.hid (below_trans' (Below.drew hB.out) hbT0)))
        | (go_at_call 21; ((with_reducible refine (toKy_any one1 two1 exp1 _).mono ?_); rintro e wI2 ⟨rfl, hbT1⟩; go_split_ands; have hSI2 := Lib.hid (HSI.out _ (below_trans' (Hid.out (by assumption)) hbT1)); have hB_I2 := Lib.hid (below_trans' hB_I1.out hbT1)))
        | (go_at_call 13; ((with_reducible refine (sgI_by text0 modulus0 exp0 sig0 one1 two1 exp1 _ (fitSg_text hfit0)).mono ?_); rintro e wI3 ⟨rfl, hbF⟩; go_split_ands; have hSI3 := Lib.hid (HSI.out _ (below_trans' (Hid.out (by assumption)) hbF)); have hB_I3 := Lib.hid (below_trans' hB_I2.out hbF))))
    go_split_ands
    rename Hid (Below b1.heap.size b1 _) => hNX
    replace hN := hNX
    replace hB := hB_I3
    rw [hMP.out]
    go_wp2
    go_ret
    exact ⟨rfl, hB.out⟩
set_option maxRecDepth 100000 in
theorem lifted (os : Os) (started : os.Started) (H : Type) (enc : TypeId × Value → H) :
    ReturnsInHanded {} Try.checked os 8 .any (Rows.fnExactSignedBySpec.pre6 enc Try.prog Try.f8 Rows.fnExactSignedByRow.domain false) (Rows.fnExactSignedBySpec.post enc Try.prog Try.f8 false true false false) := by
  refine returnsInHanded_of_change (C := Try.checked) own started (by kernel_rfl) Try.func8
    (ChangeSpec.witness6 (enc := enc) (C := Try.checked) false ⟨#[], #[.agg #[.string ByteArray.empty, .int .i64 0, .int .i64 0, .int .i64 0], .agg #[.int .i64 0, .int .i64 0, .int .i64 0]], []⟩ 8 (by kernel_rfl) (by kernel_rfl) (by kernel_rfl) (by kernel_rfl)) ?_
  intro W base args ds gs before hval0 hW hcnd _
  have hval : ∀ (j : Nat) t v, Try.f8.params[j]? = some t → args[j]? = some v → Value.okWide Try.prog W .any base t v := hval0
  have hW' := hW
  obtain ⟨p, q, hA0, hV, rfl, hfz, hnd⟩ := hW
  have hA : DataW.TrodAll enc Try.prog W 0 (fun _ => true) true Try.f8.params.toList args.toList ds p := hA0
  rw [Try.params8] at hA hval
  obtain ⟨v0, vs0, d0, ds0, p0, q0, hargs, rfl, rfl, h0, r0⟩ := trodAll_cons hA
  obtain ⟨v1, vs1, d1, ds1, p1, q1, rfl, rfl, rfl, h1, r1⟩ := trodAll_cons r0
  obtain ⟨rfl, rfl, rfl⟩ := trodAll_nil r1
  obtain rfl : args = #[v0, v1] := by cases args; simp_all
  obtain ⟨rfl, rfl⟩ := trodVars_none hV
  have k0 := h0
  have lt0 : ∀ x ∈ p0, x.block < W.heap.size := by obtain ⟨m, hm⟩ := k0; exact DataW.trod_lt m _ _ _ hm
  obtain ⟨text0, modulus0, exp0, sig0, rfl, w0⟩ := argSg (hval 0 44 v0 rfl rfl) h0
  have k1 := h1
  have lt1 : ∀ x ∈ p1, x.block < W.heap.size := by obtain ⟨m, hm⟩ := k1; exact DataW.trod_lt m _ _ _ hm
  obtain ⟨one1, two1, exp1, rfl, w1⟩ := argKy (hval 1 40 v1 rfl rfl) h1
  clear hA0 hval0
  refine (walk text0 modulus0 exp0 sig0 one1 two1 exp1 W w0 w1).mono fun e W' ⟨he, bel⟩ => ?_
  subst he
  exact ⟨_, rfl, _, _, _, [], _, [], hW', trodAll_mk1 (shut_bool Try.underlying4 _), (trodAll_cons_mk (Below.trod laidOut (by kernel_rfl) (of_decide_eq_true (by kernel_rfl)) k0 bel lt0) (trodAll_cons_mk (Below.trod laidOut (by kernel_rfl) (of_decide_eq_true (by kernel_rfl)) k1 bel lt1) trodAll_mk0)), rfl, bel.frame _, fun h => by cases h⟩
theorem over : Rows.fnExactSignedByRow.holds Try.pinned (OpenSpec.ofChange Rows.fnExactSignedBySpec) :=
  OpenClaim.holds_of_wide 8 Try.f8 rfl rfl rfl rfl rfl rfl rfl ⟨rfl, rfl, rfl, rfl, rfl⟩ rfl rfl rfl rfl rfl (by kernel_rfl) Try.func8 (by kernel_rfl)
    (of_decide_eq_true (by kernel_rfl)) (by unfold Func.isWrapper; first | (rw [if_pos (by decide +kernel)]; kernel_rfl) | (rw [if_neg (by decide +kernel)]; exact ⟨rfl, rfl⟩))
    (fun os started H enc _ => lifted os started H enc)
theorem proved : Rows.FnExactSignedBySaid := over
#print axioms proved
end Go.Proofs.Ythniiknhbhoncaa.fnExactSignedBy
