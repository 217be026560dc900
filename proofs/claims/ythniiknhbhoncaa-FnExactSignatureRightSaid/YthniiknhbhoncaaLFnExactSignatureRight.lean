/-
  'FnExactSignatureRight' answers true at every input, and each argument reads behind the call as before. Conditions: none.
-/
import Derived.Test.YthniiknhbhoncaaRows
import Derived.Test.YthniiknhbhoncaaJD
import Derived.WalkKit
import Derived.ProofKit
import Derived.Below
import Derived.Lib.Hide
import Derived.Outline
import Derived.BigQuiet
import Derived.Deep.QuietTactic
import Derived.Deep.Draws
import Derived.Laws.OwnMore
import Derived.Laws.Rows
import Derived.WalkSpells
import Derived.Deep.RegionWith
import Derived.OpenShut
import Derived.ShutString
import Derived.ChangeOld
namespace Go.Proofs.Ythniiknhbhoncaa.fnExactSignatureRight
open Go.ChangeShapes Go.WideShapes Go.ChangeAt Go.RowKit
open Go.ChangeMaps (open_string shut_string)
set_option linter.unusedVariables false
theorem own : ownKnob Try.prog.godebug = none := by kernel_rfl
theorem laidOut : laidOutB Try.prog = true := by kernel_rfl
set_option maxRecDepth 100000 in
set_option maxHeartbeats 4000000 in
theorem walk (text0 : ByteArray) (modulus0 : Int) (exp0 : Int) (sig0 : Int) (w : World) (w0 : InSg ⟨text0, modulus0, exp0, sig0⟩) :
    Calls Try.prog 7 #[.agg #[.string text0, .int .i64 modulus0, .int .i64 exp0, .int .i64 sig0]] w fun e w' => e = .returned (.bool true) ∧ Below w.heap.size w w' := by
  have hin0 := w0
  clear w0
  obtain ⟨b0, hb0⟩ : ∃ b0, w.alloc (.cells #[.string text0, .int .i64 modulus0, .int .i64 exp0, .int .i64 sig0] 44) = b0 := ⟨_, rfl⟩
  have hbb0 : Below w.heap.size w b0 := by rw [← hb0]; exact (Below.refl _ _).alloc (Nat.le_refl _) _
  have hBb := Lib.hid (hbb0)
  have hrow : ∀ wX, Below b0.heap.size b0 wX → wX.cell? ⟨w.heap.size, 0, none⟩ = some (.string text0) ∧ wX.cell? ⟨w.heap.size, 1, none⟩ = some (.int .i64 modulus0) ∧ wX.cell? ⟨w.heap.size, 2, none⟩ = some (.int .i64 exp0) ∧ wX.cell? ⟨w.heap.size, 3, none⟩ = some (.int .i64 sig0) := fun wX hX => by
    obtain ⟨y0_0, y0_1, y0_2, y0_3⟩ := row4 hb0 hX
    exact ⟨y0_0, y0_1, y0_2, y0_3⟩
  have hrow := Lib.hid hrow
  have hN := Lib.hid (Below.refl b0.heap.size b0)
  clear hbb0
  have hB := Lib.hid hBb.out
  go_enter Try.func7, Try.ntmps7
  obtain ⟨y0_0, y0_1, y0_2, y0_3⟩ := hrow.out _ hN.out
  go_wp2_with fail
  have hb0 := Lib.hid hb0
  refine (szSg_any text0 modulus0 exp0 sig0 1048576 _ hin0 (by omega) (by omega)).mono ?_
  rintro e w11 ⟨r0, rfl, hr0, hs_0, hb11_⟩
  clear y0_0 y0_1 y0_2 y0_3
  replace hB := Lib.hid (below_trans' hB.out hb11_)
  replace hN := Lib.hid (below_trans' hN.out hb11_)
  clear hb11_
  by_cases hneg0 : r0 < 0
  · go_wp2
    go_ret
    exact ⟨rfl, hB.out⟩
  · have hsz0 := hs_0 (by omega)
    have hfit0 := fitSg_sz hsz0
    clear hs_0 hsz0
    obtain ⟨y0_0, y0_1, y0_2, y0_3⟩ := hrow.out _ hN.out
    go_wp2_with fail
    refine (toSg_any text0 modulus0 exp0 sig0 _).mono ?_
    rintro e w12 ⟨rfl, hb12_⟩
    clear y0_0 y0_1 y0_2 y0_3
    replace hB := Lib.hid (below_trans' hB.out hb12_)
    replace hN := Lib.hid (below_trans' hN.out hb12_)
    clear hb12_
    go_wp2_with fail
    refine (sgS_right text0 modulus0 exp0 sig0 _ (fitSg_text hfit0)).mono ?_
    rintro e w13 ⟨rfl, hbF⟩
    replace hB := Lib.hid (below_trans' hB.out hbF)
    replace hN := Lib.hid (below_trans' hN.out hbF)
    clear hbF
    obtain ⟨MP, hMP⟩ : ∃ MP, sgR ⟨text0, modulus0, exp0, sig0⟩ = MP := ⟨_, rfl⟩
    replace hMP := Lib.hid hMP
    rw [hMP.out]
    obtain ⟨y0_0, y0_1, y0_2, y0_3⟩ := hrow.out _ hN.out
    go_wp2_with fail
    refine (toSg_any text0 modulus0 exp0 sig0 _).mono ?_
    rintro e w14 ⟨rfl, hb14_⟩
    clear y0_0 y0_1 y0_2 y0_3
    replace hB := Lib.hid (below_trans' hB.out hb14_)
    replace hN := Lib.hid (below_trans' hN.out hb14_)
    clear hb14_
    go_wp2_with fail
    refine (sgI_right text0 modulus0 exp0 sig0 _ (fitSg_text hfit0)).mono ?_
    rintro e w15 ⟨rfl, hbF⟩
    replace hB := Lib.hid (below_trans' hB.out hbF)
    replace hN := Lib.hid (below_trans' hN.out hbF)
    clear hbF
    rw [hMP.out]
    go_wp2
    go_ret
    exact ⟨rfl, hB.out⟩
set_option maxRecDepth 100000 in
theorem lifted (os : Os) (started : os.Started) (H : Type) (enc : TypeId × Value → H) :
    ReturnsInHanded {} Try.checked os 7 .any (Rows.fnExactSignatureRightSpec.pre6 enc Try.prog Try.f7 Rows.fnExactSignatureRightRow.domain false) (Rows.fnExactSignatureRightSpec.post enc Try.prog Try.f7 false true false false) := by
  refine returnsInHanded_of_change (C := Try.checked) own started (by kernel_rfl) Try.func7
    (ChangeSpec.witness6 (enc := enc) (C := Try.checked) false ⟨#[], #[.agg #[.string ByteArray.empty, .int .i64 0, .int .i64 0, .int .i64 0]], []⟩ 8 (by kernel_rfl) (by kernel_rfl) (by kernel_rfl) (by kernel_rfl)) ?_
  intro W base args ds gs before hval0 hW hcnd _
  have hval : ∀ (j : Nat) t v, Try.f7.params[j]? = some t → args[j]? = some v → Value.okWide Try.prog W .any base t v := hval0
  have hW' := hW
  obtain ⟨p, q, hA0, hV, rfl, hfz, hnd⟩ := hW
  have hA : DataW.TrodAll enc Try.prog W 0 (fun _ => true) true Try.f7.params.toList args.toList ds p := hA0
  rw [Try.params7] at hA hval
  obtain ⟨v0, vs0, d0, ds0, p0, q0, hargs, rfl, rfl, h0, r0⟩ := trodAll_cons hA
  obtain ⟨rfl, rfl, rfl⟩ := trodAll_nil r0
  obtain rfl : args = #[v0] := by cases args; simp_all
  obtain ⟨rfl, rfl⟩ := trodVars_none hV
  have k0 := h0
  have lt0 : ∀ x ∈ p0, x.block < W.heap.size := by obtain ⟨m, hm⟩ := k0; exact DataW.trod_lt m _ _ _ hm
  obtain ⟨text0, modulus0, exp0, sig0, rfl, w0⟩ := argSg (hval 0 44 v0 rfl rfl) h0
  clear hA0 hval0
  refine (walk text0 modulus0 exp0 sig0 W w0).mono fun e W' ⟨he, bel⟩ => ?_
  subst he
  exact ⟨_, rfl, _, _, _, [], _, [], hW', trodAll_mk1 (shut_bool Try.underlying4 _), (trodAll_cons_mk (Below.trod laidOut (by kernel_rfl) (of_decide_eq_true (by kernel_rfl)) k0 bel lt0) trodAll_mk0), rfl, bel.frame _, fun h => by cases h⟩
theorem over : Rows.fnExactSignatureRightRow.holds Try.pinned (OpenSpec.ofChange Rows.fnExactSignatureRightSpec) :=
  OpenClaim.holds_of_wide 7 Try.f7 rfl rfl rfl rfl rfl rfl rfl ⟨rfl, rfl, rfl, rfl, rfl⟩ rfl rfl rfl rfl rfl (by kernel_rfl) Try.func7 (by kernel_rfl)
    (of_decide_eq_true (by kernel_rfl)) (by unfold Func.isWrapper; first | (rw [if_pos (by decide +kernel)]; kernel_rfl) | (rw [if_neg (by decide +kernel)]; exact ⟨rfl, rfl⟩))
    (fun os started H enc _ => lifted os started H enc)
theorem proved : Rows.FnExactSignatureRightSaid := over
#print axioms proved
end Go.Proofs.Ythniiknhbhoncaa.fnExactSignatureRight
