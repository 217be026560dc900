/-
  'FnExactReadItem' answers true at every input, and each argument reads behind the call as before. Conditions: none.
  The frame is the kit's shell (proof-skeleton.mjs); the walk is the verifier's.
-/
import Derived.Test.YtomalmehnidhkaaRows
import Derived.Test.YtomalmehnidhkaaGn
import Derived.Test.YtomalmehnidhkaaGo
import Derived.Test.YtomalmehnidhkaaGp
import Derived.Below
import Derived.Lib.Hide
import Derived.Outline
import Derived.BigQuiet
import Derived.Deep.QuietTactic
import Derived.Deep.Draws
import Derived.Laws.OwnMore
import Derived.Laws.Rows
import Derived.WalkSpells
import Derived.Deep.RegionWith
import Derived.WalkKit
import Derived.ProofKit
import Derived.OpenShut
import Derived.ShutString
namespace Go.Proofs.Ytomalmehnidhkaa.fnExactReadItem
open Go.ChangeShapes Go.WideShapes Go.ChangeAt Go.RowKit
open Go.ChangeMaps (open_string shut_string)
set_option linter.unusedVariables false      -- a walk need not use every 'w<i>' (that an integer argument fits its kind)

theorem own : ownKnob Try.prog.godebug = none := by kernel_rfl

/-! ### STEP 1: THE WALK: the Go text returns true. 'Grown w w'': the world has at most new blocks (Derived/RowKit3.lean). Part the cases AHEAD of 'go_enter' where a test parts the walk; take each callee by a contract of your own. -/
set_option maxRecDepth 100000 in
set_option maxHeartbeats 4000000 in
theorem walk (a0 : ByteArray) (w0 : a0.size ≤ maxLen) (w : World) :
    Calls Try.prog 8 #[.string a0] w fun e w' => e = .returned (.bool true) ∧ Below w.heap.size w w' := by
  have hs : a0.size ≤ maxLen := w0
  unfold maxLen at w0
  by_cases hbig : 1048576 < a0.size
  · go_enter Try.func8, Try.ntmps8
    go_wp2
    go_ret
    exact ⟨rfl, Below.refl _ _⟩
  · have hs2 : a0.size ≤ 90000000 := by omega
    go_enter Try.func8, Try.ntmps8
    go_wp2_with fail
    refine (rdS_item a0 _ hs2).mono ?_
    rintro e w2 ⟨L, ok, k, t, b, d, z, hR, hI, rfl, hb2⟩
    have HR := Lib.hid hR
    have HI := Lib.hid hI
    obtain ⟨w3, hw3⟩ : ∃ w3, w2.alloc (.cells #[.string k, .string t, .string b, .int .i64 d] 24) = w3 := ⟨_, rfl⟩
    have hb3 : Below w.heap.size w w3 := by rw [← hw3]; exact hb2.alloc hb2.size _
    have hb3 := Lib.hid hb3
    clear hR hI hb2
    go_wp2_with fail
    have hw3 := Lib.hid hw3
    refine (rdI_item a0 _ hs2).mono ?_
    rintro e w4 ⟨L4, ok4, k4, t4, b4, d4, z4, hR4, hI4, rfl, hb4⟩
    obtain ⟨rfl, rfl⟩ := rdE_one hR4 HR.out
    have he := hI4.symm.trans HI.out
    obtain ⟨⟨rfl, rfl, rfl, rfl⟩, rfl⟩ : (k4 = k ∧ t4 = t ∧ b4 = b ∧ d4 = d) ∧ z4 = z := by simpa using he
    clear hR4 hI4 he
    obtain ⟨w5, hw5⟩ : ∃ w5, w4.alloc (.cells #[.string k4, .string t4, .string b4, .int .i64 d4] 24) = w5 := ⟨_, rfl⟩
    have hb45 : Below w4.heap.size w4 w5 := by rw [← hw5]; exact (Below.refl _ _).alloc (Nat.le_refl _) _
    have hb35 := Lib.hid (below_trans' hb4 hb45)
    have hb5 := Lib.hid (below_trans' hb3.out hb35.out)
    obtain ⟨x0, x1, x2, x3⟩ := row4 hw5 (Below.refl _ _)
    obtain ⟨y0, y1, y2, y3⟩ := row4 hw3.out hb35.out
    clear hb4 hb45
    go_wp2_with fail
    have hw5 := Lib.hid hw5
    refine (eqI_any _ _ _ _ _).mono ?_
    rintro e w6 ⟨rfl, hb6⟩
    have hb6 := Lib.hid (below_trans' hb5.out hb6)
    go_wp2
    go_ret
    exact ⟨rfl, hb6.out⟩

/-! ### THE ROW's STEP: WRITTEN OUT: LEAVE IT -/
set_option maxRecDepth 100000 in
theorem lifted (os : Os) (started : os.Started) (H : Type) (enc : TypeId × Value → H) :
    ReturnsInHanded {} Try.checked os 8 .any (Rows.fnExactReadItemSpec.pre6 enc Try.prog Try.f8 Rows.fnExactReadItemRow.domain false) (Rows.fnExactReadItemSpec.post enc Try.prog Try.f8 false true false false) := by
  refine returnsInHanded_of_change (C := Try.checked) own started (by kernel_rfl) Try.func8
    (ChangeSpec.witness6 (enc := enc) (C := Try.checked) false ⟨#[], #[.string ByteArray.empty], []⟩ 8 (by kernel_rfl) (by kernel_rfl) (by kernel_rfl) (by kernel_rfl)) ?_
  intro W base args ds gs before hval0 hW hcnd _
  have hval : ∀ (j : Nat) t v, Try.f8.params[j]? = some t → args[j]? = some v → Value.okWide Try.prog W .any base t v := hval0
  have hW' := hW
  obtain ⟨p, q, hA0, hV, rfl, hfz, hnd⟩ := hW
  have hA : DataW.TrodAll enc Try.prog W 0 (fun _ => true) true Try.f8.params.toList args.toList ds p := hA0
  rw [Try.params8] at hA hval
  obtain ⟨v0, vs0, d0, ds0, p0, q0, hargs, rfl, rfl, h0, r0⟩ := trodAll_cons hA
  obtain ⟨rfl, rfl, rfl⟩ := trodAll_nil r0
  obtain rfl : args = #[v0] := by cases args; simp_all
  obtain ⟨rfl, rfl⟩ := trodVars_none hV
  obtain ⟨a0, rfl, rfl, rfl, w0⟩ := open_string Try.underlying9 (hval 0 9 v0 rfl rfl) h0
  clear hA0 hval0
  simp only [List.append_nil] at hW'
  refine (walk a0 w0 W).mono fun e W' ⟨he, hg⟩ => ?_
  subst he
  exact ⟨_, rfl, _, _, _, [], _, [], hW', (trodAll_cons_mk (shut_bool Try.underlying4 _) trodAll_mk0), (trodAll_cons_mk (shut_string Try.underlying9 w0) trodAll_mk0), rfl, hg.frame _, fun h => by cases h⟩

theorem over : Rows.fnExactReadItemRow.holds Try.pinned (OpenSpec.ofChange Rows.fnExactReadItemSpec) :=
  OpenClaim.holds_of_wide 8 Try.f8 rfl rfl rfl rfl rfl rfl rfl ⟨rfl, rfl, rfl, rfl, rfl⟩ rfl rfl rfl rfl rfl (by kernel_rfl) Try.func8 (by kernel_rfl)
    (of_decide_eq_true (by kernel_rfl)) (by unfold Func.isWrapper; first | (rw [if_pos (by decide +kernel)]; kernel_rfl) | (rw [if_neg (by decide +kernel)]; exact ⟨rfl, rfl⟩))
    (fun os started H enc _ => lifted os started H enc)

/-- ████ THE STATEMENT ████ -/
theorem proved : Rows.FnExactReadItemSaid :=
  over
#print axioms proved
end Go.Proofs.Ytomalmehnidhkaa.fnExactReadItem
