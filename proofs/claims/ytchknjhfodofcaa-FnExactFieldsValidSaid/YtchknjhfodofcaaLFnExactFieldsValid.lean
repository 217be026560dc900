/-
  'FnExactFieldsValid' answers true at every input, and each argument reads behind the call as before. Conditions: none.
-/
import Derived.Test.YtchknjhfodofcaaRows
import Derived.Test.YtchknjhfodofcaaHO
import Derived.Test.YtchknjhfodofcaaHJ
import Derived.WalkKit
import Derived.ProofKit
import Derived.Below
import Derived.Lib.Hide
import Derived.Outline
import Derived.BigQuiet
import Derived.Deep.QuietTactic
import Derived.Deep.Draws
import Derived.Laws.OwnMore
import Derived.Laws.Rows
import Derived.WalkSpells
import Derived.Deep.RegionWith
import Derived.OpenShut
import Derived.ShutString
import Derived.ChangeOld
namespace Go.Proofs.Ytchknjhfodofcaa.fnExactFieldsValid
open Go.ChangeShapes Go.WideShapes Go.ChangeAt Go.RowKit
open Go.ChangeMaps (open_string shut_string)
set_option linter.unusedVariables false
theorem own : ownKnob Try.prog.godebug = none := by kernel_rfl
theorem laidOut : laidOutB Try.prog = true := by kernel_rfl
set_option maxRecDepth 100000 in
set_option maxHeartbeats 4000000 in
theorem walk (a0 : Option Addr) (len0 cap0 : Nat) (L0 : List Fd) (w : World) (w0 : ArgLFd w a0 len0 cap0 L0) :
    Calls Try.prog 7 #[.slice a0 len0 cap0] w fun e w' => e = .returned (.bool true) ∧ Below w.heap.size w w' := by
  obtain ⟨hlen0, hrd0, hmax0⟩ := w0
  subst hlen0
  have hrd0 := Lib.hid hrd0
  have hB := Lib.hid (Below.refl w.heap.size w)
  go_enter Try.func7, Try.ntmps7
  go_wp2_with fail
  refine (szsFd_any _ L0 1048576 _ hrd0.out hmax0 (by omega) (by omega)).mono ?_
  rintro e w11 ⟨r0, rfl, hr0, hs_0, hb11_⟩
  replace hrd0 := Lib.hid (hrd0.out.below hb11_)
  replace hB := Lib.hid (below_trans' hB.out hb11_)
  clear hb11_
  by_cases hneg0 : r0 < 0
  · go_wp2
    go_ret
    exact ⟨rfl, hB.out⟩
  · have hsz0 := hs_0 (by omega)
    have hfit0 := fitFd_szs hsz0
    have h200 := lenFd_szs hsz0
    clear hs_0 hsz0
    go_wp2_with fail
    refine (tosFd_any _ L0 _ hrd0.out h200).mono ?_
    rintro e w12 ⟨t0, rfl, ht0, hb12_⟩
    replace hrd0 := Lib.hid (hrd0.out.below hb12_)
    replace hB := Lib.hid (below_trans' hB.out hb12_)
    replace ht0 := Lib.hid (OwnG.rd ht0)
    clear hb12_
    go_wp2_with fail
    refine (flS_valid t0 L0 _ ht0.out hfit0).mono ?_
    rintro e w13 ⟨rfl, hbF⟩
    replace hrd0 := Lib.hid (hrd0.out.below hbF)
    replace ht0 := Lib.hid (ht0.out.below hbF)
    replace hB := Lib.hid (below_trans' hB.out hbF)
    clear hbF
    clear ht0
    obtain ⟨MP, hMP⟩ : ∃ MP, flsB L0 = MP := ⟨_, rfl⟩
    replace hMP := Lib.hid hMP
    rw [hMP.out]
    go_wp2_with fail
    refine (tosFd_any _ L0 _ hrd0.out h200).mono ?_
    rintro e w14 ⟨x0, rfl, hx0, hb14_⟩
    replace hrd0 := Lib.hid (hrd0.out.below hb14_)
    replace hB := Lib.hid (below_trans' hB.out hb14_)
    replace hx0 := Lib.hid hx0
    clear hb14_
    go_wp2_with fail
    refine (flI_valid x0 L0 _ (OwnG.rd hx0.out) hfit0).mono ?_
    rintro e w15 ⟨rfl, hbF⟩
    replace hrd0 := Lib.hid (hrd0.out.below hbF)
    replace hx0 := Lib.hid (OwnG.grown hx0.out hbF)
    replace hB := Lib.hid (below_trans' hB.out hbF)
    clear hbF
    rw [hMP.out]
    go_wp2_with fail
    refine (tosFd_any _ L0 _ hrd0.out h200).mono ?_
    rintro e w16 ⟨s0, rfl, hs0, hb16_⟩
    replace hrd0 := Lib.hid (hrd0.out.below hb16_)
    replace hx0 := Lib.hid (OwnG.grown hx0.out hb16_)
    replace hB := Lib.hid (below_trans' hB.out hb16_)
    replace hs0 := OwnG.rd hs0
    clear hb16_
    go_wp2_with fail
    refine (eqsFd_any x0 s0 _ _ (OwnG.rd hx0.out) hs0).mono ?_
    rintro e w17 ⟨rfl, hb17_⟩
    replace hrd0 := Lib.hid (hrd0.out.below hb17_)
    replace hx0 := Lib.hid (OwnG.grown hx0.out hb17_)
    replace hB := Lib.hid (below_trans' hB.out hb17_)
    clear hb17_
    clear hs0
    go_wp2
    go_ret
    exact ⟨rfl, hB.out⟩
set_option maxRecDepth 100000 in
theorem lifted (os : Os) (started : os.Started) (H : Type) (enc : TypeId × Value → H) :
    ReturnsInHanded {} Try.checked os 7 .any (Rows.fnExactFieldsValidSpec.pre6 enc Try.prog Try.f7 Rows.fnExactFieldsValidRow.domain false) (Rows.fnExactFieldsValidSpec.post enc Try.prog Try.f7 false true false false) := by
  refine returnsInHanded_of_change (C := Try.checked) own started (by kernel_rfl) Try.func7
    (ChangeSpec.witness6 (enc := enc) (C := Try.checked) false ⟨#[], #[.slice none 0 0], []⟩ 8 (by kernel_rfl) (by kernel_rfl) (by kernel_rfl) (by kernel_rfl)) ?_
  intro W base args ds gs before hval0 hW hcnd _
  have hval : ∀ (j : Nat) t v, Try.f7.params[j]? = some t → args[j]? = some v → Value.okWide Try.prog W .any base t v := hval0
  have hW' := hW
  obtain ⟨p, q, hA0, hV, rfl, hfz, hnd⟩ := hW
  have hA : DataW.TrodAll enc Try.prog W 0 (fun _ => true) true Try.f7.params.toList args.toList ds p := hA0
  rw [Try.params7] at hA hval
  obtain ⟨v0, vs0, d0, ds0, p0, q0, hargs, rfl, rfl, h0, r0⟩ := trodAll_cons hA
  obtain ⟨rfl, rfl, rfl⟩ := trodAll_nil r0
  obtain rfl : args = #[v0] := by cases args; simp_all
  obtain ⟨rfl, rfl⟩ := trodVars_none hV
  obtain ⟨a0, len0, cap0, rfl⟩ := okWide_slice Try.underlying36 (hval 0 36 v0 rfl rfl)
  have k0 := h0
  have lt0 : ∀ x ∈ p0, x.block < W.heap.size := by obtain ⟨m, hm⟩ := k0; exact DataW.trod_lt m _ _ _ hm
  obtain ⟨L0, w0⟩ : ∃ L, ArgLFd W a0 len0 cap0 L := by
    obtain ⟨fuel, hf⟩ := h0
    exact argLFd (by simp [Value.cells]) hf
  clear hA0 hval0
  refine (walk a0 len0 cap0 L0 W w0).mono fun e W' ⟨he, bel⟩ => ?_
  subst he
  exact ⟨_, rfl, _, _, _, [], _, [], hW', trodAll_mk1 (shut_bool Try.underlying4 _), (trodAll_cons_mk (Below.trod laidOut (by kernel_rfl) (of_decide_eq_true (by kernel_rfl)) k0 bel lt0) trodAll_mk0), rfl, bel.frame _, fun h => by cases h⟩
theorem over : Rows.fnExactFieldsValidRow.holds Try.pinned (OpenSpec.ofChange Rows.fnExactFieldsValidSpec) :=
  OpenClaim.holds_of_wide 7 Try.f7 rfl rfl rfl rfl rfl rfl rfl ⟨rfl, rfl, rfl, rfl, rfl⟩ rfl rfl rfl rfl rfl (by kernel_rfl) Try.func7 (by kernel_rfl)
    (of_decide_eq_true (by kernel_rfl)) (by unfold Func.isWrapper; first | (rw [if_pos (by decide +kernel)]; kernel_rfl) | (rw [if_neg (by decide +kernel)]; exact ⟨rfl, rfl⟩))
    (fun os started H enc _ => lifted os started H enc)
theorem proved : Rows.FnExactFieldsValidSaid := over
#print axioms proved
end Go.Proofs.Ytchknjhfodofcaa.fnExactFieldsValid
