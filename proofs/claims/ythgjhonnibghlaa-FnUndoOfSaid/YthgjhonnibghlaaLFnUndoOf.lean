/-
  'FnUndoOf' answers true at every input, and each argument reads behind the call as before. Conditions: none.
  The frame is the kit's shell (proof-skeleton.mjs); the walk is the verifier's.
-/
import Derived.Test.YthgjhonnibghlaaRows
import Derived.Test.YthgjhonnibghlaaHM
import Derived.Test.YthgjhonnibghlaaHH
import Derived.Test.YthgjhonnibghlaaHI
import Derived.Test.YthgjhonnibghlaaHG
import Derived.Test.YthgjhonnibghlaaGc
import Derived.Lib.Hide
import Derived.Outline
import Derived.BigQuiet
import Derived.Deep.QuietTactic
import Derived.Deep.Draws
import Derived.Laws.OwnMore
import Derived.Laws.Rows
import Derived.WalkSpells
import Derived.Deep.RegionWith
import Derived.WalkKit
import Derived.ProofKit
import Derived.OpenShut
import Derived.ShutString
import Derived.ChangeOld
import Derived.Below
namespace Go.Proofs.Ythgjhonnibghlaa.fnUndoOf
open Go.ChangeShapes Go.WideShapes Go.ChangeAt Go.RowKit
open Go.ChangeMaps (open_string shut_string)
set_option linter.unusedVariables false

theorem own : ownKnob Try.prog.godebug = none := by kernel_rfl
theorem laidOut : laidOutB Try.prog = true := by kernel_rfl

/-- WHAT THE WALK IS TOLD OF A SLICE OF INTEGERS THAT CAME IN: it is nil; or it leads to a row of 'cap' cells, the numbers 'zs' (the first 'len' are its elements, the rest its spare room), each fitting its kind. -/
def IsRow (k : IntKind) (w : World) (a : Option Addr) (len cap : Nat) (zs : List Int) : Prop :=
  (a = none ∧ len = 0 ∧ cap = 0 ∧ zs = []) ∨
  ∃ x, a = some x ∧ len ≤ cap ∧ cap ≤ maxLen ∧ zs.length = cap ∧ (∀ i, i < zs.length → w.cell? (x.add i) = some (.int k (zs.getD i 0))) ∧ ∀ n ∈ zs, (Lit.int k n).wf = true

/-! ### STEP 1: THE WALK: the Go text returns true, AND WRITES NOTHING THAT WAS THERE: 'Below w.heap.size w w'' (Derived/Below.lean: '.refl', '.alloc', '.drew', '.setCell' at a new block, '.trans'). Open each 'IsRow' by 'rcases' AHEAD of 'go_enter'; part every test ahead of the walk. -/
set_option maxRecDepth 100000 in
set_option maxHeartbeats 4000000 in
theorem walk (a0 : Option Addr) (len0 cap0 : Nat) (z0 : List Int) (w : World) (w0 : IsRow .u8 w a0 len0 cap0 z0) :
    Calls Try.prog 6 #[.slice a0 len0 cap0] w fun e w' => e = .returned (.bool true) ∧ Below w.heap.size w w' := by
  have hcode := codeArg_of w0
  have hcap := hcode.1
  have hcap2 := hcode.2.1
  unfold maxLen at hcap2
  clear w0
  by_cases hbig : 1048576 < len0
  · go_enter Try.func6, Try.ntmps6
    go_wp2
    go_ret
    exact ⟨rfl, Below.refl _ _⟩
  · go_enter Try.func6, Try.ntmps6
    go_wp2_with fail
    refine (drawUn_any w a0 len0 cap0 hcode).mono ?_
    rintro e w2 ⟨⟨kind0, num0, ⟨na0, ho0⟩, what0⟩, n, rfl, hsh, hb2⟩
    simp only [aggAy]
    have hfi : FitAy ⟨kind0, num0, ⟨na0, ho0⟩, what0⟩ := fitAy_sh hsh
    obtain ⟨⟨⟨kind, num, ⟨na, ho⟩, what⟩, z⟩, hP⟩ : ∃ P, unD ⟨kind0, num0, ⟨na0, ho0⟩, what0⟩ n = P := ⟨_, rfl⟩
    have HP := Lib.hid hP
    clear hP
    obtain ⟨w3, hw3⟩ : ∃ w3, w2.alloc (.cells #[.int .i64 kind0, .int .i64 num0, .string na0, .string ho0, .string what0] 26) = w3 := ⟨_, rfl⟩
    have hb3 : Below w.heap.size w w3 := by rw [← hw3]; exact hb2.alloc hb2.size _
    obtain ⟨r0, r1, r2, r3, r4⟩ := row5 hw3 (Below.refl _ _)
    have hb3 := Lib.hid hb3
    clear hb2 hsh
    go_wp2_with fail
    have hw3 := Lib.hid hw3
    refine (ayI_undo kind0 num0 na0 ho0 what0 n _ hfi).mono ?_
    rw [HP.out]
    rintro e w4 ⟨rfl, hb4⟩
    simp only [aggAy]
    have hk4 := Lib.hid hb4
    clear r0 r1 r2 r3 r4 hb4
    obtain ⟨w5, hw5⟩ : ∃ w5, w4.alloc (.cells #[.int .i64 kind, .int .i64 num, .string na, .string ho, .string what] 26) = w5 := ⟨_, rfl⟩
    have hb45 : Below w4.heap.size w4 w5 := by rw [← hw5]; exact (Below.refl _ _).alloc (Nat.le_refl _) _
    have hk5 := Lib.hid (below_trans' hk4.out hb45)
    obtain ⟨r0, r1, r2, r3, r4⟩ := row5 hw3.out hk5.out
    clear hb45
    go_wp2_with fail
    have hw5 := Lib.hid hw5
    refine (ayS_undo kind0 num0 na0 ho0 what0 n _ hfi).mono ?_
    rw [HP.out]
    rintro e w6 ⟨rfl, hb6⟩
    simp only [aggAy]
    obtain ⟨w7, hw7⟩ : ∃ w7, w6.alloc (.cells #[.int .i64 kind, .int .i64 num, .string na, .string ho, .string what] 26) = w7 := ⟨_, rfl⟩
    have hb67 : Below w6.heap.size w6 w7 := by rw [← hw7]; exact (Below.refl _ _).alloc (Nat.le_refl _) _
    have hk7 := Lib.hid (below_trans' hb6 hb67)
    have hk37 := Lib.hid (below_trans' hk5.out hk7.out)
    have hb7 := Lib.hid (below_trans' hb3.out hk37.out)
    clear r0 r1 r2 r3 r4 hb6 hb67
    obtain ⟨x0, x1, x2, x3, x4⟩ := row5 hw5.out hk7.out
    obtain ⟨y0, y1, y2, y3, y4⟩ := row5 hw7 (Below.refl _ _)
    have k0 : (kind == kind) = true := by simp
    have k1 : (num == num) = true := by simp
    have k2 := str_same (a := na) (b := na) rfl
    have k3 := str_same (a := ho) (b := ho) rfl
    have k4 := str_same (a := what) (b := what) rfl
    cases z with
    | false =>
      have hz : (⟨kind, num, ⟨na, ho⟩, what⟩ : Ay) = Ay.zero := unD_false HP.out
      unfold Ay.zero Hn.zero at hz
      obtain ⟨hz0, hz1, ⟨hz2, hz3⟩, hz4⟩ : kind = 0 ∧ num = 0 ∧ (na = ⟨#[]⟩ ∧ ho = ⟨#[]⟩) ∧ what = ⟨#[]⟩ := by simpa using hz
      have z0 : (kind == 0) = true := by rw [hz0]; rfl
      have z1 : (num == 0) = true := by rw [hz1]; rfl
      have z2 : na.toList = [] := str_nil (by rw [hz2]; rfl)
      have z3 : ho.toList = [] := str_nil (by rw [hz3]; rfl)
      have z4 : what.toList = [] := str_nil (by rw [hz4]; rfl)
      have hw7 := Lib.hid hw7
      clear hz hz0 hz1 hz2 hz3 hz4 k2 k3 k4
      go_wp2_with (go_at_call 15; refine (alive_any _).mono ?_; rintro e w' ⟨rfl, rfl⟩)
      go_ret
      exact ⟨rfl, hb7.out⟩
    | true =>
      obtain ⟨hv, hn, hwho, hwhat, hmore⟩ := unD_got HP.out
      simp only [Hn.mk.injEq] at hwho
      obtain ⟨rfl, rfl⟩ := hwho
      simp only at hwhat hn
      subst hwhat
      subst hn
      have HV := Lib.hid hv
      have HM := Lib.hid hmore
      have hfx : FitAy ⟨kind, num, ⟨na, ho⟩, what⟩ := fitAy_of hv
      have ma := fit_max hfx.1
      have mb := fit_max hfx.2.1
      have mt := fit_max hfx.2.2
      simp only at ma mb mt
      clear hv hmore
      go_wp2_with fail
      have hw7 := Lib.hid hw7
      refine (ayI_undo kind num na ho what num _ hfx).mono ?_
      rw [HM.out]
      rintro e w8 ⟨rfl, hb8⟩
      simp only [aggAy, Ay.zero, Hn.zero]
      have h89 : Below w8.heap.size w8 (w8.alloc (.cells #[.int .i64 0, .int .i64 0, .string ⟨#[]⟩, .string ⟨#[]⟩, .string ⟨#[]⟩] 26)) := (Below.refl _ _).alloc (Nat.le_refl _) _
      have hk9 := Lib.hid (below_trans' (below_trans' hk7.out hb8) h89)
      have hk39 := Lib.hid (below_trans' hk5.out hk9.out)
      clear hb8 h89 x0 x1 x2 x3 x4 y0 y1 y2 y3 y4
      obtain ⟨x0, x1, x2, x3, x4⟩ := row5 hw5.out hk9.out
      go_wp2_with fail
      refine (ayI_valid kind num na ho what _ ma mb mt).mono ?_
      rintro e w10 ⟨rfl, hb10⟩
      rw [HV.out]
      have hk10 := Lib.hid (below_trans' hk9.out hb10)
      have hk3a := Lib.hid (below_trans' hk39.out hb10)
      clear x0 x1 x2 x3 x4 hb10
      obtain ⟨x0, x1, x2, x3, x4⟩ := row5 hw5.out hk10.out
      obtain ⟨r0, r1, r2, r3, r4⟩ := row5 hw3.out hk3a.out
      go_wp2
      go_ret
      exact ⟨rfl, below_trans' hb3.out hk3a.out⟩

/-! ### THE ROW's STEP: WRITTEN OUT: LEAVE IT -/
set_option maxRecDepth 100000 in
theorem lifted (os : Os) (started : os.Started) (H : Type) (enc : TypeId × Value → H) :
    ReturnsInHanded {} Try.checked os 6 .any (Rows.fnUndoOfSpec.pre6 enc Try.prog Try.f6 Rows.fnUndoOfRow.domain false) (Rows.fnUndoOfSpec.post enc Try.prog Try.f6 false true false false) := by
  refine returnsInHanded_of_change (C := Try.checked) own started (by kernel_rfl) Try.func6
    (ChangeSpec.witness6 (enc := enc) (C := Try.checked) false ⟨#[], #[.slice none 0 0], []⟩ 8 (by kernel_rfl) (by kernel_rfl) (by kernel_rfl) (by kernel_rfl)) ?_
  intro W base args ds gs before hval0 hW hcnd _
  have hval : ∀ (j : Nat) t v, Try.f6.params[j]? = some t → args[j]? = some v → Value.okWide Try.prog W .any base t v := hval0
  have hW' := hW
  obtain ⟨p, q, hA0, hV, rfl, hfz, hnd⟩ := hW
  have hA : DataW.TrodAll enc Try.prog W 0 (fun _ => true) true Try.f6.params.toList args.toList ds p := hA0
  rw [Try.params6] at hA hval
  obtain ⟨v0, vs0, d0, ds0, p0, q0, hargs, rfl, rfl, h0, r0⟩ := trodAll_cons hA
  obtain ⟨rfl, rfl, rfl⟩ := trodAll_nil r0
  obtain rfl : args = #[v0] := by cases args; simp_all
  obtain ⟨rfl, rfl⟩ := trodVars_none hV
  obtain ⟨a0, len0, cap0, rfl⟩ := okWide_slice Try.underlying22 (hval 0 22 v0 rfl rfl)
  have k0 := h0
  have lt0 : ∀ x ∈ p0, x.block < W.heap.size := by obtain ⟨m, hm⟩ := k0; exact DataW.trod_lt m _ _ _ hm
  obtain ⟨z0, w0⟩ : ∃ zs, IsRow .u8 W a0 len0 cap0 zs := by
    obtain ⟨fuel, hf⟩ := h0
    rcases open_ints Try.underlying22 Try.underlying5 (by kernel_rfl) hf with ⟨hcs, _⟩ | ⟨x, l, c, zs, hcs, _, hl, hm, hz, _, hcell, hwz⟩
    · simp [Value.cells] at hcs
      obtain ⟨rfl, rfl, rfl⟩ := hcs
      exact ⟨[], .inl ⟨rfl, rfl, rfl, rfl⟩⟩
    · simp [Value.cells] at hcs
      obtain ⟨rfl, rfl, rfl⟩ := hcs
      exact ⟨zs, .inr ⟨_, rfl, hl, hm, by simpa using hz, hcell, hwz⟩⟩
  clear hA0 hval0
  refine (walk a0 len0 cap0 z0 W w0).mono fun e W' ⟨he, bel⟩ => ?_
  subst he
  exact ⟨_, rfl, _, _, _, [], _, [], hW', trodAll_mk1 (shut_bool Try.underlying4 _), (trodAll_cons_mk (Below.trod laidOut (by kernel_rfl) (of_decide_eq_true (by kernel_rfl)) k0 bel lt0) trodAll_mk0), rfl, bel.frame _, fun h => by cases h⟩

theorem over : Rows.fnUndoOfRow.holds Try.pinned (OpenSpec.ofChange Rows.fnUndoOfSpec) :=
  OpenClaim.holds_of_wide 6 Try.f6 rfl rfl rfl rfl rfl rfl rfl ⟨rfl, rfl, rfl, rfl, rfl⟩ rfl rfl rfl rfl rfl (by kernel_rfl) Try.func6 (by kernel_rfl)
    (of_decide_eq_true (by kernel_rfl)) (by unfold Func.isWrapper; first | (rw [if_pos (by decide +kernel)]; kernel_rfl) | (rw [if_neg (by decide +kernel)]; exact ⟨rfl, rfl⟩))
    (fun os started H enc _ => lifted os started H enc)

/-- ████ THE STATEMENT ████ -/
theorem proved : Rows.FnUndoOfSaid := over
#print axioms proved
end Go.Proofs.Ythgjhonnibghlaa.fnUndoOf
