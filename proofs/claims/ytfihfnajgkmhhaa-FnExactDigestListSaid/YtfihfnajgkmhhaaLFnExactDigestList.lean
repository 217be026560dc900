/-
  'FnExactDigestList' answers true at every input, and each argument reads behind the call as before. Conditions: none.
-/
import Derived.Test.YtfihfnajgkmhhaaRows
import Derived.Test.YtfihfnajgkmhhaaJD
import Derived.Test.YtfihfnajgkmhhaaJC
import Derived.Test.YtfihfnajgkmhhaaJB
import Derived.WalkKit
import Derived.ProofKit
import Derived.Below
import Derived.Lib.Hide
import Derived.Outline
import Derived.BigQuiet
import Derived.Deep.QuietTactic
import Derived.Deep.Draws
import Derived.Laws.OwnMore
import Derived.Laws.Rows
import Derived.WalkSpells
import Derived.Deep.RegionWith
import Derived.OpenShut
import Derived.ShutString
import Derived.ChangeOld
namespace Go.Proofs.Ytfihfnajgkmhhaa.fnExactDigestList
open Go.ChangeShapes Go.WideShapes Go.ChangeAt Go.RowKit
open Go.ChangeMaps (open_string shut_string)
set_option linter.unusedVariables false
theorem own : ownKnob Try.prog.godebug = none := by kernel_rfl
theorem laidOut : laidOutB Try.prog = true := by kernel_rfl
set_option maxRecDepth 100000 in
set_option maxHeartbeats 4000000 in
theorem walk (a0 : Option Addr) (len0 cap0 : Nat) (L0 : List Int) (w : World) (w0 : ArgZL w a0 len0 cap0 L0) :
    Calls Try.prog 8 #[.slice a0 len0 cap0] w fun e w' => e = .returned (.bool true) ∧ Below w.heap.size w w' := by
  obtain ⟨hlen0, hrd0, hmax0⟩ := w0
  subst hlen0
  by_cases hbig : 1048576 < L0.length
  · go_enter Try.func8, Try.ntmps8
    go_wp2
    go_ret
    exact ⟨rfl, Below.refl _ _⟩
  · have hl : L0.length ≤ 1048576 := by omega
    obtain ⟨N, hN⟩ : ∃ N, dgI L0 = N := ⟨_, rfl⟩
    have HN := Lib.hid hN
    have e0 : (N == N) = true := by simp
    have hrd0 := Lib.hid hrd0
    clear hN
    go_enter Try.func8, Try.ntmps8
    go_wp2_with fail
    refine (toZs_any _ L0 _ hrd0.out hl).mono ?_
    rintro e w1 ⟨t1, rfl, ho1, hb1⟩
    have hr1 := Lib.hid (OwnG.rd ho1)
    have hB1 := Lib.hid hb1
    have hA1 := Lib.hid (hrd0.out.below hb1)
    clear ho1 hb1
    go_wp2_with fail
    refine (dgS_list t1 L0 _ hr1.out).mono ?_
    rintro e w' ⟨rfl, rfl⟩
    rw [HN.out]
    go_wp2_with fail
    refine (toZs_any _ L0 _ hA1.out hl).mono ?_
    rintro e w2 ⟨t2, rfl, ho2, hb2⟩
    have hr2 := Lib.hid (OwnG.rd ho2)
    have hB2 := Lib.hid (below_trans' hB1.out hb2)
    have hA2 := Lib.hid (hA1.out.below hb2)
    clear ho2 hb2
    go_wp2_with fail
    refine (dgP_list t2 L0 _ hr2.out).mono ?_
    rintro e w' ⟨rfl, rfl⟩
    rw [HN.out]
    go_wp2_with fail
    refine (toZs_any _ L0 _ hA2.out hl).mono ?_
    rintro e w3 ⟨t3, rfl, ho3, hb3⟩
    have hr3 := Lib.hid (OwnG.rd ho3)
    have hB3 := Lib.hid (below_trans' hB2.out hb3)
    have hr23 := Lib.hid (hr2.out.below hb3)
    clear ho3 hb3
    go_wp2_with fail
    refine (eqZs_any t2 t3 L0 _ hr23.out hr3.out).mono ?_
    rintro e w4 ⟨rfl, q, rfl⟩
    go_wp2
    go_ret
    exact ⟨rfl, below_trans' hB3.out (below_drewN _ q)⟩
set_option maxRecDepth 100000 in
theorem lifted (os : Os) (started : os.Started) (H : Type) (enc : TypeId × Value → H) :
    ReturnsInHanded {} Try.checked os 8 .any (Rows.fnExactDigestListSpec.pre6 enc Try.prog Try.f8 Rows.fnExactDigestListRow.domain false) (Rows.fnExactDigestListSpec.post enc Try.prog Try.f8 false true false false) := by
  refine returnsInHanded_of_change (C := Try.checked) own started (by kernel_rfl) Try.func8
    (ChangeSpec.witness6 (enc := enc) (C := Try.checked) false ⟨#[], #[.slice none 0 0], []⟩ 8 (by kernel_rfl) (by kernel_rfl) (by kernel_rfl) (by kernel_rfl)) ?_
  intro W base args ds gs before hval0 hW hcnd _
  have hval : ∀ (j : Nat) t v, Try.f8.params[j]? = some t → args[j]? = some v → Value.okWide Try.prog W .any base t v := hval0
  have hW' := hW
  obtain ⟨p, q, hA0, hV, rfl, hfz, hnd⟩ := hW
  have hA : DataW.TrodAll enc Try.prog W 0 (fun _ => true) true Try.f8.params.toList args.toList ds p := hA0
  rw [Try.params8] at hA hval
  obtain ⟨v0, vs0, d0, ds0, p0, q0, hargs, rfl, rfl, h0, r0⟩ := trodAll_cons hA
  obtain ⟨rfl, rfl, rfl⟩ := trodAll_nil r0
  obtain rfl : args = #[v0] := by cases args; simp_all
  obtain ⟨rfl, rfl⟩ := trodVars_none hV
  obtain ⟨a0, len0, cap0, rfl⟩ := okWide_slice Try.underlying30 (hval 0 30 v0 rfl rfl)
  have k0 := h0
  have lt0 : ∀ x ∈ p0, x.block < W.heap.size := by obtain ⟨m, hm⟩ := k0; exact DataW.trod_lt m _ _ _ hm
  obtain ⟨L0, w0⟩ : ∃ L, ArgZL W a0 len0 cap0 L := by
    obtain ⟨fuel, hf⟩ := h0
    exact argZ (by simp [Value.cells]) hf
  clear hA0 hval0
  refine (walk a0 len0 cap0 L0 W w0).mono fun e W' ⟨he, bel⟩ => ?_
  subst he
  exact ⟨_, rfl, _, _, _, [], _, [], hW', trodAll_mk1 (shut_bool Try.underlying4 _), (trodAll_cons_mk (Below.trod laidOut (by kernel_rfl) (of_decide_eq_true (by kernel_rfl)) k0 bel lt0) trodAll_mk0), rfl, bel.frame _, fun h => by cases h⟩
theorem over : Rows.fnExactDigestListRow.holds Try.pinned (OpenSpec.ofChange Rows.fnExactDigestListSpec) :=
  OpenClaim.holds_of_wide 8 Try.f8 rfl rfl rfl rfl rfl rfl rfl ⟨rfl, rfl, rfl, rfl, rfl⟩ rfl rfl rfl rfl rfl (by kernel_rfl) Try.func8 (by kernel_rfl)
    (of_decide_eq_true (by kernel_rfl)) (by unfold Func.isWrapper; first | (rw [if_pos (by decide +kernel)]; kernel_rfl) | (rw [if_neg (by decide +kernel)]; exact ⟨rfl, rfl⟩))
    (fun os started H enc _ => lifted os started H enc)
theorem proved : Rows.FnExactDigestListSaid := over
#print axioms proved
end Go.Proofs.Ytfihfnajgkmhhaa.fnExactDigestList
