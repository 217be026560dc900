/-
  'FnExactReadFields' answers true at every input, and each argument reads behind the call as before. Conditions: none.
-/
import Derived.Test.YtchknjhfodofcaaRows
import Derived.Test.YtchknjhfodofcaaHO
import Derived.Test.YtchknjhfodofcaaHJ
import Derived.WalkKit
import Derived.ProofKit
import Derived.Below
import Derived.Lib.Hide
import Derived.Outline
import Derived.BigQuiet
import Derived.Deep.QuietTactic
import Derived.Deep.Draws
import Derived.Laws.OwnMore
import Derived.Laws.Rows
import Derived.WalkSpells
import Derived.Deep.RegionWith
import Derived.OpenShut
import Derived.ShutString
import Derived.ChangeOld
namespace Go.Proofs.Ytchknjhfodofcaa.fnExactReadFields
open Go.ChangeShapes Go.WideShapes Go.ChangeAt Go.RowKit
open Go.ChangeMaps (open_string shut_string)
set_option linter.unusedVariables false
theorem own : ownKnob Try.prog.godebug = none := by kernel_rfl
theorem laidOut : laidOutB Try.prog = true := by kernel_rfl
set_option maxRecDepth 100000 in
set_option maxHeartbeats 4000000 in
theorem walk (a0 : ByteArray) (w : World) (w0 : a0.size ≤ maxLen) :
    Calls Try.prog 10 #[.string a0] w fun e w' => e = .returned (.bool true) ∧ Below w.heap.size w w' := by
  have hs0 := w0
  unfold maxLen at hs0
  clear w0
  by_cases hbig0 : 1048576 < a0.size
  · go_enter Try.func10, Try.ntmps10
    go_wp2
    go_ret
    exact ⟨rfl, Below.refl _ _⟩
  have hB := Lib.hid (Below.refl w.heap.size w)
  go_enter Try.func10, Try.ntmps10
  have hfit0 : a0.size ≤ 100000000 := by omega
  go_wp2_with fail
  refine (flS_read a0 _ (by omega)).mono ?_
  rintro e w11 ⟨u, rfl, hu, hbF⟩
  replace hB := Lib.hid (below_trans' hB.out hbF)
  clear hbF
  have hbound : (flR a0.data.toList).1.length ≤ 100 := Nat.le_trans (flR_6 _) (by omega)
  obtain ⟨MP, hMP⟩ : ∃ MP, flR a0.data.toList = MP := ⟨_, rfl⟩
  replace hMP := Lib.hid hMP
  rw [hMP.out] at hu hbound ⊢
  replace hu := Lib.hid (OwnG.rd hu)
  have hk := Lib.hid (Below.refl w11.heap.size w11)
  have hB0 := hB
  have hlog := Lib.hid hk.out.size
  go_wp2_with fail
  refine (flI_read a0 _ (by omega)).mono ?_
  rintro e w12 ⟨g, rfl, hg, hbF⟩
  replace hB := Lib.hid (below_trans' hB.out hbF)
  replace hk := Lib.hid (below_trans' hk.out hbF)
  clear hbF
  rw [hMP.out] at hg ⊢
  replace hg := Lib.hid hg
  go_wp2_with fail
  refine (eqsFd_any g u _ _ (OwnG.rd hg.out) (hu.out.below hk.out)).mono ?_
  rintro e w13 ⟨rfl, hb13_⟩
  replace hg := Lib.hid (OwnG.grown hg.out hb13_)
  replace hB := Lib.hid (below_trans' hB.out hb13_)
  replace hk := Lib.hid (below_trans' hk.out hb13_)
  clear hb13_
  replace hB := Lib.hid (below_trans' hB0.out hk.out)
  go_wp2_with fail
  refine (marksFd_row g MP.1 1 _ _ hg.out (by omega) (by omega)).mono ?_
  rintro e w14 ⟨rfl, hgm, hg14_⟩
  obtain ⟨q0, hq0⟩ : ∃ q, 1 + 2 * MP.1.length = q := ⟨_, rfl⟩
  rw [hq0]
  have hbm : Below w11.heap.size w11 w14 := own_below' (OwnG.base hg.out hlog.out) hk.out hg14_
  replace hk := Lib.hid hbm
  replace hg := Lib.hid hgm
  clear hgm hg14_ hbm
  replace hB := Lib.hid (below_trans' hB0.out hk.out)
  have q1 : ((q0 : Int) == (q0 : Int)) = true := by simp
  have q2 : decide ((q0 : Int) < 0) = false := decide_eq_false (by omega)
  have q3 : ¬ ((q0 : Int) < 0) := by omega
  go_wp2_with fail
  refine (heldsFd_any g MP.1.length 1 _ (OwnG.rd hg.out) (by omega) (by omega)).mono ?_
  rintro e w15 ⟨rfl, hb15_⟩
  rw [hq0]
  replace hg := Lib.hid (OwnG.grown hg.out hb15_)
  replace hB := Lib.hid (below_trans' hB.out hb15_)
  replace hk := Lib.hid (below_trans' hk.out hb15_)
  clear hb15_
  go_wp2_with fail
  refine (flI_read a0 _ (by omega)).mono ?_
  rintro e w16 ⟨h, rfl, hh, hbF⟩
  replace hg := Lib.hid (OwnG.grown hg.out hbF)
  replace hB := Lib.hid (below_trans' hB.out hbF)
  replace hk := Lib.hid (below_trans' hk.out hbF)
  clear hbF
  rw [hMP.out] at hh ⊢
  replace hh := OwnG.rd hh
  go_wp2_with fail
  refine (eqsFd_any h u _ _ hh (hu.out.below hk.out)).mono ?_
  rintro e w17 ⟨rfl, hb17_⟩
  replace hg := Lib.hid (OwnG.grown hg.out hb17_)
  replace hB := Lib.hid (below_trans' hB.out hb17_)
  replace hk := Lib.hid (below_trans' hk.out hb17_)
  clear hb17_
  clear hh
  go_wp2_with fail
  refine (heldsFd_any g MP.1.length 1 _ (OwnG.rd hg.out) (by omega) (by omega)).mono ?_
  rintro e w18 ⟨rfl, hb18_⟩
  rw [hq0]
  replace hg := Lib.hid (OwnG.grown hg.out hb18_)
  replace hB := Lib.hid (below_trans' hB.out hb18_)
  replace hk := Lib.hid (below_trans' hk.out hb18_)
  clear hb18_
  go_wp2
  go_ret
  exact ⟨rfl, hB.out⟩
set_option maxRecDepth 100000 in
theorem lifted (os : Os) (started : os.Started) (H : Type) (enc : TypeId × Value → H) :
    ReturnsInHanded {} Try.checked os 10 .any (Rows.fnExactReadFieldsSpec.pre6 enc Try.prog Try.f10 Rows.fnExactReadFieldsRow.domain false) (Rows.fnExactReadFieldsSpec.post enc Try.prog Try.f10 false true false false) := by
  refine returnsInHanded_of_change (C := Try.checked) own started (by kernel_rfl) Try.func10
    (ChangeSpec.witness6 (enc := enc) (C := Try.checked) false ⟨#[], #[.string ByteArray.empty], []⟩ 8 (by kernel_rfl) (by kernel_rfl) (by kernel_rfl) (by kernel_rfl)) ?_
  intro W base args ds gs before hval0 hW hcnd _
  have hval : ∀ (j : Nat) t v, Try.f10.params[j]? = some t → args[j]? = some v → Value.okWide Try.prog W .any base t v := hval0
  have hW' := hW
  obtain ⟨p, q, hA0, hV, rfl, hfz, hnd⟩ := hW
  have hA : DataW.TrodAll enc Try.prog W 0 (fun _ => true) true Try.f10.params.toList args.toList ds p := hA0
  rw [Try.params10] at hA hval
  obtain ⟨v0, vs0, d0, ds0, p0, q0, hargs, rfl, rfl, h0, r0⟩ := trodAll_cons hA
  obtain ⟨rfl, rfl, rfl⟩ := trodAll_nil r0
  obtain rfl : args = #[v0] := by cases args; simp_all
  obtain ⟨rfl, rfl⟩ := trodVars_none hV
  have k0 := h0
  have lt0 : ∀ x ∈ p0, x.block < W.heap.size := by obtain ⟨m, hm⟩ := k0; exact DataW.trod_lt m _ _ _ hm
  obtain ⟨a0, rfl, _, _, w0⟩ := open_string Try.underlying9 (hval 0 9 v0 rfl rfl) h0
  clear hA0 hval0
  refine (walk a0 W w0).mono fun e W' ⟨he, bel⟩ => ?_
  subst he
  exact ⟨_, rfl, _, _, _, [], _, [], hW', trodAll_mk1 (shut_bool Try.underlying4 _), (trodAll_cons_mk (Below.trod laidOut (by kernel_rfl) (of_decide_eq_true (by kernel_rfl)) k0 bel lt0) trodAll_mk0), rfl, bel.frame _, fun h => by cases h⟩
theorem over : Rows.fnExactReadFieldsRow.holds Try.pinned (OpenSpec.ofChange Rows.fnExactReadFieldsSpec) :=
  OpenClaim.holds_of_wide 10 Try.f10 rfl rfl rfl rfl rfl rfl rfl ⟨rfl, rfl, rfl, rfl, rfl⟩ rfl rfl rfl rfl rfl (by kernel_rfl) Try.func10 (by kernel_rfl)
    (of_decide_eq_true (by kernel_rfl)) (by unfold Func.isWrapper; first | (rw [if_pos (by decide +kernel)]; kernel_rfl) | (rw [if_neg (by decide +kernel)]; exact ⟨rfl, rfl⟩))
    (fun os started H enc _ => lifted os started H enc)
theorem proved : Rows.FnExactReadFieldsSaid := over
#print axioms proved
end Go.Proofs.Ytchknjhfodofcaa.fnExactReadFields
