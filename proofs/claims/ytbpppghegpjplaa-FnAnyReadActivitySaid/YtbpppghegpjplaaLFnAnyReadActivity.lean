/-
  'FnAnyReadActivity' answers true at every input, and each argument reads behind the call as before. Conditions: none.
  The frame is the kit's shell (proof-skeleton.mjs); the walk is the verifier's.
-/
import Derived.Test.YtbpppghegpjplaaRows
import Derived.Test.YtbpppghegpjplaaHM
import Derived.Test.YtbpppghegpjplaaHH
import Derived.Test.YtbpppghegpjplaaHG
import Derived.Test.YtbpppghegpjplaaGc
import Derived.Below
import Derived.Lib.Hide
import Derived.Outline
import Derived.BigQuiet
import Derived.Deep.QuietTactic
import Derived.Deep.Draws
import Derived.Laws.OwnMore
import Derived.Laws.Rows
import Derived.WalkSpells
import Derived.Deep.RegionWith
import Derived.WalkKit
import Derived.ProofKit
import Derived.OpenShut
import Derived.ShutString
namespace Go.Proofs.Ytbpppghegpjplaa.fnAnyReadActivity
open Go.ChangeShapes Go.WideShapes Go.ChangeAt Go.RowKit
open Go.ChangeMaps (open_string shut_string)
set_option linter.unusedVariables false      -- a walk need not use every 'w<i>' (that an integer argument fits its kind)

theorem own : ownKnob Try.prog.godebug = none := by kernel_rfl

/-! ### STEP 1: THE WALK: the Go text returns true. 'Grown w w'': the world has at most new blocks (Derived/RowKit3.lean). Part the cases AHEAD of 'go_enter' where a test parts the walk; take each callee by a contract of your own. -/
set_option maxRecDepth 100000 in
set_option maxHeartbeats 4000000 in
theorem walk (a0 : ByteArray) (w0 : a0.size ≤ maxLen) (w : World) :
    Calls Try.prog 5 #[.string a0] w fun e w' => e = .returned (.bool true) ∧ Below w.heap.size w w' := by
  have hs : a0.size ≤ maxLen := w0
  unfold maxLen at w0
  by_cases hbig : 2147483647 < a0.size
  · go_enter Try.func5, Try.ntmps5
    go_wp2_with (go_at_call 11; refine (alive_any _).mono ?_; rintro e w' ⟨rfl, rfl⟩)
    go_ret
    exact ⟨rfl, Below.refl _ _⟩
  · have hs2 : a0.size ≤ 2200000000 := by omega
    have hb2 := Lib.hid (Below.refl w.heap.size w)
    obtain ⟨⟨⟨kind, num, ⟨na, ho⟩, what⟩, z⟩, hP⟩ : ∃ P, ayR a0.data.toList = P := ⟨_, rfl⟩
    have HP := Lib.hid hP
    clear hP
    go_enter Try.func5, Try.ntmps5
    go_wp2_with fail
    refine (ayI_read a0 _ hs2).mono ?_
    rw [HP.out]
    rintro e w3 ⟨rfl, hb3⟩
    simp only [aggAy]
    have hb3 := Lib.hid (below_trans' hb2.out hb3)
    obtain ⟨w4, hw4⟩ : ∃ w4, w3.alloc (.cells #[.int .i64 kind, .int .i64 num, .string na, .string ho, .string what] 26) = w4 := ⟨_, rfl⟩
    have hb4 : Below w.heap.size w w4 := by rw [← hw4]; exact hb3.out.alloc hb3.out.size _
    have hb4 := Lib.hid hb4
    go_wp2_with fail
    have hw4 := Lib.hid hw4
    refine (ayS_read a0 _ hs2).mono ?_
    rw [HP.out]
    rintro e w5 ⟨rfl, hb5⟩
    simp only [aggAy]
    obtain ⟨w6, hw6⟩ : ∃ w6, w5.alloc (.cells #[.int .i64 kind, .int .i64 num, .string na, .string ho, .string what] 26) = w6 := ⟨_, rfl⟩
    have hb56 : Below w5.heap.size w5 w6 := by rw [← hw6]; exact (Below.refl _ _).alloc (Nat.le_refl _) _
    have hk6 := Lib.hid (below_trans' hb5 hb56)
    have hb6 := Lib.hid (below_trans' hb4.out hk6.out)
    obtain ⟨r0, r1, r2, r3, r4⟩ := row5 hw4.out hk6.out
    obtain ⟨x0, x1, x2, x3, x4⟩ := row5 hw6 (Below.refl _ _)
    clear hb5 hb56
    rcases z with _ | _
    · have hz := ayR_false HP.out
      unfold Ay.zero Hn.zero at hz
      obtain ⟨hz0, hz1, ⟨hz2, hz3⟩, hz4⟩ : kind = 0 ∧ num = 0 ∧ (na = ⟨#[]⟩ ∧ ho = ⟨#[]⟩) ∧ what = ⟨#[]⟩ := by simpa using hz
      have k0 : (kind == kind) = true := by simp
      have k1 : (num == num) = true := by simp
      have z0 : (kind == 0) = true := by rw [hz0]; rfl
      have z1 : (num == 0) = true := by rw [hz1]; rfl
      have z2 : na.toList = [] := str_nil (by rw [hz2]; rfl)
      have z3 : ho.toList = [] := str_nil (by rw [hz3]; rfl)
      have z4 : what.toList = [] := str_nil (by rw [hz4]; rfl)
      have hw6 := Lib.hid hw6
      clear hz hz0 hz1 hz2 hz3 hz4
      go_wp2_with (go_at_call 11; refine (alive_any _).mono ?_; rintro e w' ⟨rfl, rfl⟩)
      go_ret
      exact ⟨rfl, hb6.out⟩
    · obtain ⟨hiB, hiT⟩ := ayR_got HP.out
      have hfi : FitAy ⟨kind, num, ⟨na, ho⟩, what⟩ := fitAy_of hiB
      have HM := Lib.hid (ayR_more HP.out)
      have HT : Hid (bs (ayT ⟨kind, num, ⟨na, ho⟩, what⟩) = a0) := Lib.hid (by rw [hiT]; apply ByteArray.ext; apply Array.toList_inj.1; rw [bs_data])
      have zk : (⟨#[32]⟩ : ByteArray).size = 1 := rfl
      have sk : a0.size + (⟨#[32]⟩ : ByteArray).size ≤ 9223372036854775807 := by omega
      have hsk : (a0 ++ ⟨#[32]⟩ : ByteArray).size ≤ 2200000000 := by rw [ByteArray.size_append]; omega
      have HA : Hid ((a0 ++ ⟨#[32]⟩ : ByteArray).data.toList = a0.data.toList ++ [32]) := Lib.hid (by simp)
      have q3 := str_same (a := a0) (b := a0) rfl
      have k0 : (kind == kind) = true := by simp
      have k1 : (num == num) = true := by simp
      have k2 := str_same (a := na) (b := na) rfl
      have k3 := str_same (a := ho) (b := ho) rfl
      have k4 := str_same (a := what) (b := what) rfl
      clear hiB hiT zk
      go_wp2_with fail
      have hw6 := Lib.hid hw6
      refine (ayI_read _ _ hsk).mono ?_
      rw [HA.out, HM.out]
      rintro e w8 ⟨rfl, hb8⟩
      simp only [aggAy, Ay.zero, Hn.zero]
      have h89 : Below w8.heap.size w8 (w8.alloc (.cells #[.int .i64 0, .int .i64 0, .string ⟨#[]⟩, .string ⟨#[]⟩, .string ⟨#[]⟩] 26)) := (Below.refl _ _).alloc (Nat.le_refl _) _
      have hk9 := Lib.hid (below_trans' (below_trans' hk6.out hb8) h89)
      clear hb8 h89 r0 r1 r2 r3 r4 x0 x1 x2 x3 x4
      obtain ⟨r0, r1, r2, r3, r4⟩ := row5 hw4.out hk9.out
      go_wp2_with fail
      refine (ayI_text kind num na ho what _ hfi).mono ?_
      rintro e w12 ⟨rfl, hb12⟩
      rw [HT.out]
      have hk12 := Lib.hid (below_trans' hk9.out hb12)
      go_wp2
      go_ret
      exact ⟨rfl, below_trans' hb4.out hk12.out⟩

/-! ### THE ROW's STEP: WRITTEN OUT: LEAVE IT -/
set_option maxRecDepth 100000 in
theorem lifted (os : Os) (started : os.Started) (H : Type) (enc : TypeId × Value → H) :
    ReturnsInHanded {} Try.checked os 5 .any (Rows.fnAnyReadActivitySpec.pre6 enc Try.prog Try.f5 Rows.fnAnyReadActivityRow.domain false) (Rows.fnAnyReadActivitySpec.post enc Try.prog Try.f5 false true false false) := by
  refine returnsInHanded_of_change (C := Try.checked) own started (by kernel_rfl) Try.func5
    (ChangeSpec.witness6 (enc := enc) (C := Try.checked) false ⟨#[], #[.string ByteArray.empty], []⟩ 8 (by kernel_rfl) (by kernel_rfl) (by kernel_rfl) (by kernel_rfl)) ?_
  intro W base args ds gs before hval0 hW hcnd _
  have hval : ∀ (j : Nat) t v, Try.f5.params[j]? = some t → args[j]? = some v → Value.okWide Try.prog W .any base t v := hval0
  have hW' := hW
  obtain ⟨p, q, hA0, hV, rfl, hfz, hnd⟩ := hW
  have hA : DataW.TrodAll enc Try.prog W 0 (fun _ => true) true Try.f5.params.toList args.toList ds p := hA0
  rw [Try.params5] at hA hval
  obtain ⟨v0, vs0, d0, ds0, p0, q0, hargs, rfl, rfl, h0, r0⟩ := trodAll_cons hA
  obtain ⟨rfl, rfl, rfl⟩ := trodAll_nil r0
  obtain rfl : args = #[v0] := by cases args; simp_all
  obtain ⟨rfl, rfl⟩ := trodVars_none hV
  obtain ⟨a0, rfl, rfl, rfl, w0⟩ := open_string Try.underlying9 (hval 0 9 v0 rfl rfl) h0
  clear hA0 hval0
  simp only [List.append_nil] at hW'
  refine (walk a0 w0 W).mono fun e W' ⟨he, hg⟩ => ?_
  subst he
  exact ⟨_, rfl, _, _, _, [], _, [], hW', (trodAll_cons_mk (shut_bool Try.underlying4 _) trodAll_mk0), (trodAll_cons_mk (shut_string Try.underlying9 w0) trodAll_mk0), rfl, hg.frame _, fun h => by cases h⟩

theorem over : Rows.fnAnyReadActivityRow.holds Try.pinned (OpenSpec.ofChange Rows.fnAnyReadActivitySpec) :=
  OpenClaim.holds_of_wide 5 Try.f5 rfl rfl rfl rfl rfl rfl rfl ⟨rfl, rfl, rfl, rfl, rfl⟩ rfl rfl rfl rfl rfl (by kernel_rfl) Try.func5 (by kernel_rfl)
    (of_decide_eq_true (by kernel_rfl)) (by unfold Func.isWrapper; first | (rw [if_pos (by decide +kernel)]; kernel_rfl) | (rw [if_neg (by decide +kernel)]; exact ⟨rfl, rfl⟩))
    (fun os started H enc _ => lifted os started H enc)

/-- ████ THE STATEMENT ████ -/
theorem proved : Rows.FnAnyReadActivitySaid :=
  over
#print axioms proved
end Go.Proofs.Ytbpppghegpjplaa.fnAnyReadActivity
