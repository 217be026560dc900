/-
  'FnExactReadElements' answers true at every input, and each argument reads behind the call as before. Conditions: none.
  The frame is the kit's shell (proof-skeleton.mjs); the walk is the verifier's.
-/
import Derived.Test.YtjdllminjpppbaaRows
import Derived.Test.YtjdllminjpppbaaGm
import Derived.Test.YtjdllminjpppbaaGj
import Derived.Test.YtjdllminjpppbaaGk
import Derived.Below
import Derived.Lib.Hide
import Derived.Outline
import Derived.BigQuiet
import Derived.Deep.QuietTactic
import Derived.Deep.Draws
import Derived.Laws.OwnMore
import Derived.Laws.Rows
import Derived.WalkSpells
import Derived.Deep.RegionWith
import Derived.WalkKit
import Derived.ProofKit
import Derived.OpenShut
import Derived.ShutString
namespace Go.Proofs.Ytjdllminjpppbaa.fnExactReadElements
open Go.ChangeShapes Go.WideShapes Go.ChangeAt Go.RowKit
open Go.ChangeMaps (open_string shut_string)
set_option linter.unusedVariables false      -- a walk need not use every 'w<i>' (that an integer argument fits its kind)

theorem own : ownKnob Try.prog.godebug = none := by kernel_rfl

/-! ### STEP 1: THE WALK: the Go text returns true. 'Grown w w'': the world has at most new blocks (Derived/RowKit3.lean). Part the cases AHEAD of 'go_enter' where a test parts the walk; take each callee by a contract of your own. -/
set_option maxRecDepth 100000 in
set_option maxHeartbeats 4000000 in
theorem walk (a0 : ByteArray) (w0 : a0.size ≤ maxLen) (w : World) :
    Calls Try.prog 9 #[.string a0] w fun e w' => e = .returned (.bool true) ∧ Below w.heap.size w w' := by
  have hs : a0.size ≤ maxLen := w0
  unfold maxLen at w0
  by_cases hbig : 1048576 < a0.size
  · go_enter Try.func9, Try.ntmps9
    go_wp2
    go_ret
    exact ⟨rfl, Below.refl _ _⟩
  · have hs2 : a0.size ≤ 90000000 := by omega
    go_enter Try.func9, Try.ntmps9
    go_wp2_with fail
    refine (rdS_elems a0 _ hs2).mono ?_
    rintro e w2 ⟨v2, L, ok, rfl, hR2, hown2, hb2⟩
    have hrd2 := OwnG.rd hown2
    have HR2 := Lib.hid hR2
    have hb2 := Lib.hid hb2
    have h8 : L.length ≤ 8 := by
      rcases HR2.out with ⟨_, h, _⟩ | ⟨_, h, _⟩
      · exact elB_len h
      · rw [h]; simp
    clear hR2 hown2
    go_wp2_with fail
    refine (rdI_elems a0 _ hs2).mono ?_
    rintro e w3 ⟨v3, L3, ok3, rfl, hR3, hown3, hb3⟩
    obtain ⟨rfl, rfl⟩ := rdE_one hR3 HR2.out
    have hrd3 := OwnG.rd hown3
    have hrd23 := hrd2.below hb3
    have hown3 := Lib.hid hown3
    have hb3 := Lib.hid hb3
    clear hR3
    go_wp2_with fail
    refine (eqEs_any v3 v2 _ _ hrd3 hrd23).mono ?_
    rintro e w4 ⟨rfl, hb4⟩
    have hown4 := OwnG.grown hown3.out hb4
    have hb4 := Lib.hid (below_trans' hb3.out hb4)
    go_wp2_with fail
    refine (markEs_any v3 _ 1 w2 _ hown4 hb4.out (by omega) (by omega)).mono ?_
    rintro e w5 ⟨rfl, hown5, hb5⟩
    have hrd5 := OwnG.rd hown5
    have hrd25 := Lib.hid (hrd2.below hb5)
    have hb5 := Lib.hid hb5
    go_wp2_with fail
    refine (heldEs_any v3 L3.length 1 _ hrd5 (by omega) (by omega)).mono ?_
    rintro e w6 ⟨rfl, hb6⟩
    have hrd6 := hrd5.below hb6
    have hrd26 := hrd25.out.below hb6
    have hb6 := Lib.hid (below_trans' hb5.out hb6)
    have q0 : (((1 + 2 * L3.length : Nat) : Int) == ((1 + 2 * L3.length : Nat) : Int)) = true := by simp
    go_wp2_with fail
    refine (rdI_elems a0 _ hs2).mono ?_
    rintro e w7 ⟨v7, L7, ok7, rfl, hR7, hown7, hb7⟩
    obtain ⟨rfl, rfl⟩ := rdE_one hR7 HR2.out
    have hrd7 := OwnG.rd hown7
    have hrd27 := hrd26.below hb7
    have hrd67 := Lib.hid (hrd6.below hb7)
    have hb7 := Lib.hid (below_trans' hb6.out hb7)
    clear hR7 hown7
    go_wp2_with fail
    refine (eqEs_any v7 v2 _ _ hrd7 hrd27).mono ?_
    rintro e w8 ⟨rfl, hb8⟩
    have hrd8 := hrd67.out.below hb8
    have hb8 := Lib.hid (below_trans' hb7.out hb8)
    go_wp2_with fail
    refine (heldEs_any v3 L7.length 1 _ hrd8 (by omega) (by omega)).mono ?_
    rintro e w9 ⟨rfl, hb9⟩
    have hb9 := Lib.hid (below_trans' hb8.out hb9)
    go_wp2
    go_ret
    exact ⟨rfl, below_trans' hb2.out hb9.out⟩

/-! ### THE ROW's STEP: WRITTEN OUT: LEAVE IT -/
set_option maxRecDepth 100000 in
theorem lifted (os : Os) (started : os.Started) (H : Type) (enc : TypeId × Value → H) :
    ReturnsInHanded {} Try.checked os 9 .any (Rows.fnExactReadElementsSpec.pre6 enc Try.prog Try.f9 Rows.fnExactReadElementsRow.domain false) (Rows.fnExactReadElementsSpec.post enc Try.prog Try.f9 false true false false) := by
  refine returnsInHanded_of_change (C := Try.checked) own started (by kernel_rfl) Try.func9
    (ChangeSpec.witness6 (enc := enc) (C := Try.checked) false ⟨#[], #[.string ByteArray.empty], []⟩ 8 (by kernel_rfl) (by kernel_rfl) (by kernel_rfl) (by kernel_rfl)) ?_
  intro W base args ds gs before hval0 hW hcnd _
  have hval : ∀ (j : Nat) t v, Try.f9.params[j]? = some t → args[j]? = some v → Value.okWide Try.prog W .any base t v := hval0
  have hW' := hW
  obtain ⟨p, q, hA0, hV, rfl, hfz, hnd⟩ := hW
  have hA : DataW.TrodAll enc Try.prog W 0 (fun _ => true) true Try.f9.params.toList args.toList ds p := hA0
  rw [Try.params9] at hA hval
  obtain ⟨v0, vs0, d0, ds0, p0, q0, hargs, rfl, rfl, h0, r0⟩ := trodAll_cons hA
  obtain ⟨rfl, rfl, rfl⟩ := trodAll_nil r0
  obtain rfl : args = #[v0] := by cases args; simp_all
  obtain ⟨rfl, rfl⟩ := trodVars_none hV
  obtain ⟨a0, rfl, rfl, rfl, w0⟩ := open_string Try.underlying9 (hval 0 9 v0 rfl rfl) h0
  clear hA0 hval0
  simp only [List.append_nil] at hW'
  refine (walk a0 w0 W).mono fun e W' ⟨he, hg⟩ => ?_
  subst he
  exact ⟨_, rfl, _, _, _, [], _, [], hW', (trodAll_cons_mk (shut_bool Try.underlying4 _) trodAll_mk0), (trodAll_cons_mk (shut_string Try.underlying9 w0) trodAll_mk0), rfl, hg.frame _, fun h => by cases h⟩

theorem over : Rows.fnExactReadElementsRow.holds Try.pinned (OpenSpec.ofChange Rows.fnExactReadElementsSpec) :=
  OpenClaim.holds_of_wide 9 Try.f9 rfl rfl rfl rfl rfl rfl rfl ⟨rfl, rfl, rfl, rfl, rfl⟩ rfl rfl rfl rfl rfl (by kernel_rfl) Try.func9 (by kernel_rfl)
    (of_decide_eq_true (by kernel_rfl)) (by unfold Func.isWrapper; first | (rw [if_pos (by decide +kernel)]; kernel_rfl) | (rw [if_neg (by decide +kernel)]; exact ⟨rfl, rfl⟩))
    (fun os started H enc _ => lifted os started H enc)

/-- ████ THE STATEMENT ████ -/
theorem proved : Rows.FnExactReadElementsSaid :=
  over
#print axioms proved
end Go.Proofs.Ytjdllminjpppbaa.fnExactReadElements
