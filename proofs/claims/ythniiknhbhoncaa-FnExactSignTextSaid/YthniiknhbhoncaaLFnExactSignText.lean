/-
  'FnExactSignText' answers true at every input, and each argument reads behind the call as before. Conditions: none.
-/
import Derived.Test.YthniiknhbhoncaaRows
import Derived.Test.YthniiknhbhoncaaJD
import Derived.WalkKit
import Derived.ProofKit
import Derived.Below
import Derived.Lib.Hide
import Derived.Outline
import Derived.BigQuiet
import Derived.Deep.QuietTactic
import Derived.Deep.Draws
import Derived.Laws.OwnMore
import Derived.Laws.Rows
import Derived.WalkSpells
import Derived.Deep.RegionWith
import Derived.OpenShut
import Derived.ShutString
import Derived.ChangeOld
namespace Go.Proofs.Ythniiknhbhoncaa.fnExactSignText
open Go.ChangeShapes Go.WideShapes Go.ChangeAt Go.RowKit
open Go.ChangeMaps (open_string shut_string)
set_option linter.unusedVariables false
theorem own : ownKnob Try.prog.godebug = none := by kernel_rfl
theorem laidOut : laidOutB Try.prog = true := by kernel_rfl
set_option maxRecDepth 100000 in
set_option maxHeartbeats 4000000 in
theorem walk (one0 : Int) (two0 : Int) (exp0 : Int) (a1 : ByteArray) (w : World) (w0 : InKy ⟨one0, two0, exp0⟩) (w1 : a1.size ≤ maxLen) :
    Calls Try.prog 6 #[.agg #[.int .i64 one0, .int .i64 two0, .int .i64 exp0], .string a1] w fun e w' => e = .returned (.bool true) ∧ Below w.heap.size w w' := by
  obtain ⟨w1', hw1⟩ : ∃ w1', w.alloc (.cells #[.int .i64 one0, .int .i64 two0, .int .i64 exp0] 40) = w1' := ⟨_, rfl⟩
  have hb01 : Below w.heap.size w w1' := by rw [← hw1]; exact (Below.refl _ _).alloc (Nat.le_refl _) _
  have hb01 := Lib.hid hb01
  have hsz := w1
  unfold maxLen at hsz
  obtain ⟨r0, r1, r2⟩ := row3 hw1 (Below.refl _ _)
  by_cases hbig : 1048576 < a1.size
  · go_enter Try.func6, Try.ntmps6
    go_wp2
    go_ret
    exact ⟨rfl, hb01.out⟩
  · obtain ⟨⟨⟨t, m, u, g⟩, ok⟩, hP⟩ : ∃ P, sgX ⟨one0, two0, exp0⟩ a1 = P := ⟨_, rfl⟩
    have HP := Lib.hid hP
    clear hP
    have hm : a1.size ≤ maxLen := by unfold maxLen; omega
    go_enter Try.func6, Try.ntmps6
    go_wp2_with fail
    have hw1 := Lib.hid hw1
    refine (toKy_any one0 two0 exp0 _).mono ?_
    rintro e w3 ⟨rfl, hb3⟩
    have hb3 := Lib.hid hb3
    clear r0 r1 r2
    go_wp2_with fail
    refine (sgS_text one0 two0 exp0 a1 _ hm).mono ?_
    rw [HP.out]
    rintro e w4 ⟨rfl, hb4⟩
    simp only [aggSg]
    obtain ⟨w5, hw5⟩ : ∃ w5, w4.alloc (.cells #[.string t, .int .i64 m, .int .i64 u, .int .i64 g] 28) = w5 := ⟨_, rfl⟩
    have hb45 : Below w4.heap.size w4 w5 := by rw [← hw5]; exact (Below.refl _ _).alloc (Nat.le_refl _) _
    have hb5 := Lib.hid (below_trans' (below_trans' hb3.out hb4) hb45)
    clear hb4 hb45
    obtain ⟨r0, r1, r2⟩ := row3 hw1.out hb5.out
    go_wp2_with fail
    have hw5 := Lib.hid hw5
    refine (toKy_any one0 two0 exp0 _).mono ?_
    rintro e w6 ⟨rfl, hb6⟩
    have hk6 := Lib.hid hb6
    clear r0 r1 r2 hb6
    go_wp2_with fail
    refine (sgI_text one0 two0 exp0 a1 _ hm).mono ?_
    rw [HP.out]
    rintro e w7 ⟨rfl, hb7⟩
    simp only [aggSg]
    obtain ⟨w8, hw8⟩ : ∃ w8, w7.alloc (.cells #[.string t, .int .i64 m, .int .i64 u, .int .i64 g] 28) = w8 := ⟨_, rfl⟩
    have hb78 : Below w7.heap.size w7 w8 := by rw [← hw8]; exact (Below.refl _ _).alloc (Nat.le_refl _) _
    have hk8 := Lib.hid (below_trans' (below_trans' hk6.out hb7) hb78)
    clear hb7 hb78
    obtain ⟨x0, x1, x2, x3⟩ := row4 hw8 (Below.refl _ _)
    obtain ⟨y0, y1, y2, y3⟩ := row4 hw5.out hk8.out
    go_wp2_with fail
    have hw8 := Lib.hid hw8
    refine (eqSg_any _ _ _ _ _).mono ?_
    rintro e w9 ⟨rfl, hb9⟩
    have hb9 := Lib.hid (below_trans' (below_trans' (below_trans' hb01.out hb5.out) hk8.out) hb9)
    go_wp2
    go_ret
    exact ⟨rfl, hb9.out⟩
set_option maxRecDepth 100000 in
theorem lifted (os : Os) (started : os.Started) (H : Type) (enc : TypeId × Value → H) :
    ReturnsInHanded {} Try.checked os 6 .any (Rows.fnExactSignTextSpec.pre6 enc Try.prog Try.f6 Rows.fnExactSignTextRow.domain false) (Rows.fnExactSignTextSpec.post enc Try.prog Try.f6 false true false false) := by
  refine returnsInHanded_of_change (C := Try.checked) own started (by kernel_rfl) Try.func6
    (ChangeSpec.witness6 (enc := enc) (C := Try.checked) false ⟨#[], #[.agg #[.int .i64 0, .int .i64 0, .int .i64 0], .string ByteArray.empty], []⟩ 8 (by kernel_rfl) (by kernel_rfl) (by kernel_rfl) (by kernel_rfl)) ?_
  intro W base args ds gs before hval0 hW hcnd _
  have hval : ∀ (j : Nat) t v, Try.f6.params[j]? = some t → args[j]? = some v → Value.okWide Try.prog W .any base t v := hval0
  have hW' := hW
  obtain ⟨p, q, hA0, hV, rfl, hfz, hnd⟩ := hW
  have hA : DataW.TrodAll enc Try.prog W 0 (fun _ => true) true Try.f6.params.toList args.toList ds p := hA0
  rw [Try.params6] at hA hval
  obtain ⟨v0, vs0, d0, ds0, p0, q0, hargs, rfl, rfl, h0, r0⟩ := trodAll_cons hA
  obtain ⟨v1, vs1, d1, ds1, p1, q1, rfl, rfl, rfl, h1, r1⟩ := trodAll_cons r0
  obtain ⟨rfl, rfl, rfl⟩ := trodAll_nil r1
  obtain rfl : args = #[v0, v1] := by cases args; simp_all
  obtain ⟨rfl, rfl⟩ := trodVars_none hV
  have k0 := h0
  have lt0 : ∀ x ∈ p0, x.block < W.heap.size := by obtain ⟨m, hm⟩ := k0; exact DataW.trod_lt m _ _ _ hm
  obtain ⟨one0, two0, exp0, rfl, w0⟩ := argKy (hval 0 40 v0 rfl rfl) h0
  have k1 := h1
  have lt1 : ∀ x ∈ p1, x.block < W.heap.size := by obtain ⟨m, hm⟩ := k1; exact DataW.trod_lt m _ _ _ hm
  obtain ⟨a1, rfl, _, _, w1⟩ := open_string Try.underlying9 (hval 1 9 v1 rfl rfl) h1
  clear hA0 hval0
  refine (walk one0 two0 exp0 a1 W w0 w1).mono fun e W' ⟨he, bel⟩ => ?_
  subst he
  exact ⟨_, rfl, _, _, _, [], _, [], hW', trodAll_mk1 (shut_bool Try.underlying4 _), (trodAll_cons_mk (Below.trod laidOut (by kernel_rfl) (of_decide_eq_true (by kernel_rfl)) k0 bel lt0) (trodAll_cons_mk (Below.trod laidOut (by kernel_rfl) (of_decide_eq_true (by kernel_rfl)) k1 bel lt1) trodAll_mk0)), rfl, bel.frame _, fun h => by cases h⟩
theorem over : Rows.fnExactSignTextRow.holds Try.pinned (OpenSpec.ofChange Rows.fnExactSignTextSpec) :=
  OpenClaim.holds_of_wide 6 Try.f6 rfl rfl rfl rfl rfl rfl rfl ⟨rfl, rfl, rfl, rfl, rfl⟩ rfl rfl rfl rfl rfl (by kernel_rfl) Try.func6 (by kernel_rfl)
    (of_decide_eq_true (by kernel_rfl)) (by unfold Func.isWrapper; first | (rw [if_pos (by decide +kernel)]; kernel_rfl) | (rw [if_neg (by decide +kernel)]; exact ⟨rfl, rfl⟩))
    (fun os started H enc _ => lifted os started H enc)
theorem proved : Rows.FnExactSignTextSaid := over
#print axioms proved
end Go.Proofs.Ythniiknhbhoncaa.fnExactSignText
