/-
  'FnExactFeedValid' answers true at every input, and each argument reads behind the call as before. Conditions: none.
-/
import Derived.Test.YteknjaocamlcpaaRows
import Derived.Test.YteknjaocamlcpaaGu
import Derived.Test.YteknjaocamlcpaaGr
import Derived.Test.YteknjaocamlcpaaGv
import Derived.WalkKit
import Derived.ProofKit
import Derived.Below
import Derived.Lib.Hide
import Derived.Outline
import Derived.BigQuiet
import Derived.Deep.QuietTactic
import Derived.Deep.Draws
import Derived.Laws.OwnMore
import Derived.Laws.Rows
import Derived.WalkSpells
import Derived.Deep.RegionWith
import Derived.OpenShut
import Derived.ShutString
import Derived.ChangeOld
namespace Go.Proofs.Yteknjaocamlcpaa.fnExactFeedValid
open Go.ChangeShapes Go.WideShapes Go.ChangeAt Go.RowKit
open Go.ChangeMaps (open_string shut_string)
set_option linter.unusedVariables false
theorem own : ownKnob Try.prog.godebug = none := by kernel_rfl
theorem laidOut : laidOutB Try.prog = true := by kernel_rfl
set_option maxRecDepth 100000 in
set_option maxHeartbeats 4000000 in
theorem walk (a0 : Option Addr) (len0 cap0 : Nat) (L0 : List It) (w : World) (w0 : ArgFL w a0 len0 cap0 L0) :
    Calls Try.prog 7 #[.slice a0 len0 cap0] w fun e w' => e = .returned (.bool true) ∧ Below w.heap.size w w' := by
  obtain ⟨hlen, hrd, hmax⟩ := w0
  subst hlen
  go_enter Try.func7, Try.ntmps7
  go_wp2_with fail
  refine (szIs_any _ L0 _ hrd hmax).mono ?_
  rintro e w1 ⟨r, rfl, hr1, hr2, hb1⟩
  have hrd1 := hrd.below hb1
  have hb1 := Lib.hid hb1
  by_cases hneg : r < 0
  · go_wp2
    go_ret
    exact ⟨rfl, hb1.out⟩
  · have hsz := hr2 (by omega)
    have hfit := fit_szF hsz
    have h20 := hsz.1
    clear hr2 hsz
    go_wp2_with fail
    refine (toIs_any _ L0 _ hrd1 h20).mono ?_
    rintro e w2 ⟨v2, rfl, hown2, hb2⟩
    have hrd2 := hrd1.below hb2
    have hrdv2 := OwnG.rd hown2
    have hb2 := Lib.hid (below_trans' hb1.out hb2)
    clear hown2
    go_wp2_with fail
    refine (fdS_valid v2 L0 _ hrdv2 hfit).mono ?_
    rintro e w3 ⟨rfl, hb3⟩
    have hrd3 := hrd2.below hb3
    have hb3 := Lib.hid (below_trans' hb2.out hb3)
    go_wp2_with fail
    refine (toIs_any _ L0 _ hrd3 h20).mono ?_
    rintro e w4 ⟨v4, rfl, hown4, hb4⟩
    have hrd4 := hrd3.below hb4
    have hrdv4 := OwnG.rd hown4
    have hb4 := Lib.hid (below_trans' hb3.out hb4)
    clear hown4
    go_wp2_with fail
    refine (fdI_valid v4 L0 _ hrdv4 hfit).mono ?_
    rintro e w5 ⟨rfl, hb5⟩
    have hrd5 := hrd4.below hb5
    have hrdv5 := hrdv4.below hb5
    have hb5 := Lib.hid (below_trans' hb4.out hb5)
    have qq : (fdB L0 == fdB L0) = true := by simp
    go_wp2_with fail
    refine (toIs_any _ L0 _ hrd5 h20).mono ?_
    rintro e w6 ⟨v6, rfl, hown6, hb6⟩
    have hrdv6 := OwnG.rd hown6
    have hrdv56 := hrdv5.below hb6
    have hb6 := Lib.hid (below_trans' hb5.out hb6)
    clear hown6
    go_wp2_with fail
    refine (eqIs_any v4 v6 L0 _ hrdv56 hrdv6).mono ?_
    rintro e w7 ⟨rfl, hb7⟩
    have hb7 := Lib.hid (below_trans' hb6.out hb7)
    go_wp2
    go_ret
    exact ⟨rfl, hb7.out⟩
set_option maxRecDepth 100000 in
theorem lifted (os : Os) (started : os.Started) (H : Type) (enc : TypeId × Value → H) :
    ReturnsInHanded {} Try.checked os 7 .any (Rows.fnExactFeedValidSpec.pre6 enc Try.prog Try.f7 Rows.fnExactFeedValidRow.domain false) (Rows.fnExactFeedValidSpec.post enc Try.prog Try.f7 false true false false) := by
  refine returnsInHanded_of_change (C := Try.checked) own started (by kernel_rfl) Try.func7
    (ChangeSpec.witness6 (enc := enc) (C := Try.checked) false ⟨#[], #[.slice none 0 0], []⟩ 8 (by kernel_rfl) (by kernel_rfl) (by kernel_rfl) (by kernel_rfl)) ?_
  intro W base args ds gs before hval0 hW hcnd _
  have hval : ∀ (j : Nat) t v, Try.f7.params[j]? = some t → args[j]? = some v → Value.okWide Try.prog W .any base t v := hval0
  have hW' := hW
  obtain ⟨p, q, hA0, hV, rfl, hfz, hnd⟩ := hW
  have hA : DataW.TrodAll enc Try.prog W 0 (fun _ => true) true Try.f7.params.toList args.toList ds p := hA0
  rw [Try.params7] at hA hval
  obtain ⟨v0, vs0, d0, ds0, p0, q0, hargs, rfl, rfl, h0, r0⟩ := trodAll_cons hA
  obtain ⟨rfl, rfl, rfl⟩ := trodAll_nil r0
  obtain rfl : args = #[v0] := by cases args; simp_all
  obtain ⟨rfl, rfl⟩ := trodVars_none hV
  obtain ⟨a0, len0, cap0, rfl⟩ := okWide_slice Try.underlying41 (hval 0 41 v0 rfl rfl)
  have k0 := h0
  have lt0 : ∀ x ∈ p0, x.block < W.heap.size := by obtain ⟨m, hm⟩ := k0; exact DataW.trod_lt m _ _ _ hm
  obtain ⟨L0, w0⟩ : ∃ L, ArgFL W a0 len0 cap0 L := by
    obtain ⟨fuel, hf⟩ := h0
    exact argF (by simp [Value.cells]) hf
  clear hA0 hval0
  refine (walk a0 len0 cap0 L0 W w0).mono fun e W' ⟨he, bel⟩ => ?_
  subst he
  exact ⟨_, rfl, _, _, _, [], _, [], hW', trodAll_mk1 (shut_bool Try.underlying4 _), (trodAll_cons_mk (Below.trod laidOut (by kernel_rfl) (of_decide_eq_true (by kernel_rfl)) k0 bel lt0) trodAll_mk0), rfl, bel.frame _, fun h => by cases h⟩
theorem over : Rows.fnExactFeedValidRow.holds Try.pinned (OpenSpec.ofChange Rows.fnExactFeedValidSpec) :=
  OpenClaim.holds_of_wide 7 Try.f7 rfl rfl rfl rfl rfl rfl rfl ⟨rfl, rfl, rfl, rfl, rfl⟩ rfl rfl rfl rfl rfl (by kernel_rfl) Try.func7 (by kernel_rfl)
    (of_decide_eq_true (by kernel_rfl)) (by unfold Func.isWrapper; first | (rw [if_pos (by decide +kernel)]; kernel_rfl) | (rw [if_neg (by decide +kernel)]; exact ⟨rfl, rfl⟩))
    (fun os started H enc _ => lifted os started H enc)
theorem proved : Rows.FnExactFeedValidSaid := over
#print axioms proved
end Go.Proofs.Yteknjaocamlcpaa.fnExactFeedValid
