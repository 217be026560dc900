/-
  'FnMergeFeeds' answers true at every input, and each argument reads behind the call as before. Conditions: none.
  The frame is the kit's shell (proof-skeleton.mjs); the walk is the verifier's.
-/
import Derived.Test.YtbljpbmpfmnemaaRows
import Derived.Test.YtbljpbmpfmnemaaGr
import Derived.Test.YtbljpbmpfmnemaaLawFd
import Derived.Test.YtbljpbmpfmnemaaGv
import Derived.Test.YtbljpbmpfmnemaaDChg
import Derived.Test.YtbljpbmpfmnemaaMrgI
import Derived.Test.YtbljpbmpfmnemaaMergeS
import Derived.Test.YtbljpbmpfmnemaaChgI
import Derived.Test.YtbljpbmpfmnemaaGoneI
import Derived.Test.YtbljpbmpfmnemaaGc
import Derived.Lib.Hide
import Derived.Outline
import Derived.BigQuiet
import Derived.Deep.QuietTactic
import Derived.Deep.Draws
import Derived.Laws.OwnMore
import Derived.Laws.Rows
import Derived.WalkSpells
import Derived.Deep.RegionWith
import Derived.WalkKit
import Derived.ProofKit
import Derived.OpenShut
import Derived.ShutString
import Derived.ChangeOld
import Derived.Below
namespace Go.Proofs.Ytbljpbmpfmnemaa.fnMergeFeeds
open Go.ChangeShapes Go.WideShapes Go.ChangeAt Go.RowKit
open Go.ChangeMaps (open_string shut_string)
set_option linter.unusedVariables false

theorem own : ownKnob Try.prog.godebug = none := by kernel_rfl
theorem laidOut : laidOutB Try.prog = true := by kernel_rfl

/-- WHAT THE WALK IS TOLD OF A SLICE OF INTEGERS THAT CAME IN: it is nil; or it leads to a row of 'cap' cells, the numbers 'zs' (the first 'len' are its elements, the rest its spare room), each fitting its kind. -/
def IsRow (k : IntKind) (w : World) (a : Option Addr) (len cap : Nat) (zs : List Int) : Prop :=
  (a = none ∧ len = 0 ∧ cap = 0 ∧ zs = []) ∨
  ∃ x, a = some x ∧ len ≤ cap ∧ cap ≤ maxLen ∧ zs.length = cap ∧ (∀ i, i < zs.length → w.cell? (x.add i) = some (.int k (zs.getD i 0))) ∧ ∀ n ∈ zs, (Lit.int k n).wf = true

/-! ### STEP 1: THE WALK: the Go text returns true, AND WRITES NOTHING THAT WAS THERE: 'Below w.heap.size w w'' (Derived/Below.lean: '.refl', '.alloc', '.drew', '.setCell' at a new block, '.trans'). Open each 'IsRow' by 'rcases' AHEAD of 'go_enter'; part every test ahead of the walk. -/
set_option maxRecDepth 100000 in
set_option maxHeartbeats 4000000 in
theorem walk (a0 : Option Addr) (len0 cap0 : Nat) (z0 : List Int) (w : World) (w0 : IsRow .u8 w a0 len0 cap0 z0) :
    Calls Try.prog 7 #[.slice a0 len0 cap0] w fun e w' => e = .returned (.bool true) ∧ Below w.heap.size w w' := by
  have hcode := codeArg_of w0
  have hcap := hcode.1
  have hcap2 := hcode.2.1
  unfold maxLen at hcap2
  clear w0
  by_cases hbig : 1048576 < len0
  · go_enter Try.func7, Try.ntmps7
    go_wp2
    go_ret
    exact ⟨rfl, Below.refl _ _⟩
  · go_enter Try.func7, Try.ntmps7
    go_wp2_with fail
    refine (drawMF_any w a0 len0 cap0 hcode).mono ?_
    rintro e w2 ⟨v, u, A, B, rfl, h7, h9, hsA, hsB, hrdA, hrdB, hb⟩
    have fa := fit_shortF hsA
    have fb := fit_shortF hsB
    replace hrdA := Lib.hid hrdA
    replace hrdB := Lib.hid hrdB
    replace hb := Lib.hid hb
    clear hsA hsB
    go_wp2_with fail
    refine (chI_mrg v u A B _ hrdA.out hrdB.out fa fb).mono ?_
    rintro e w3 ⟨x, rfl, hownx, hb3⟩
    obtain ⟨X, hX⟩ : ∃ X, mrgF A B = X := ⟨_, rfl⟩
    rw [hX] at hownx
    replace hX := Lib.hid hX
    have hrdx := Lib.hid (OwnG.rd hownx)
    replace hrdA := Lib.hid (hrdA.out.below hb3)
    replace hrdB := Lib.hid (hrdB.out.below hb3)
    replace hb := Lib.hid (below_trans' hb.out hb3)
    clear hownx hb3
    go_wp2_with fail
    refine (chS_mrg v u A B _ hrdA.out hrdB.out fa fb).mono ?_
    rintro e w4 ⟨y, rfl, howny, hb4⟩
    rw [hX.out] at howny
    have hrdy := Lib.hid (OwnG.rd howny)
    replace hrdA := Lib.hid (hrdA.out.below hb4)
    replace hrdB := Lib.hid (hrdB.out.below hb4)
    replace hrdx := Lib.hid (hrdx.out.below hb4)
    replace hb := Lib.hid (below_trans' hb.out hb4)
    clear howny hb4
    go_wp2_with fail
    refine (sameF_any x y X _ hrdx.out hrdy.out).mono ?_
    rintro e w5 ⟨rfl, n5, rfl⟩
    have hb5 := below_drewN w4 n5
    replace hrdA := Lib.hid (hrdA.out.below hb5)
    replace hrdB := Lib.hid (hrdB.out.below hb5)
    replace hrdx := Lib.hid (hrdx.out.below hb5)
    replace hb := Lib.hid (below_trans' hb.out hb5)
    obtain ⟨w5, hw5⟩ : ∃ w5, w4.drewN n5 = w5 := ⟨_, rfl⟩
    rw [hw5] at hrdA hrdB hrdx hb ⊢
    clear hb5 hw5 hrdy
    obtain ⟨Ax, cx, hx, hcx, hmx, _⟩ := id hrdx.out
    subst hx
    unfold maxLen at hmx
    by_cases hn : X = []
    · subst hn
      go_wp2_with (go_at_call 17; refine (alive_any _).mono ?_; rintro e w' ⟨rfl, rfl⟩)
      go_ret
      exact ⟨rfl, hb.out⟩
    · have hne : mrgF A B ≠ [] := by rw [hX.out]; exact hn
      have l0 := Lib.hid (mrgF_fdB hne)
      have l1 := Lib.hid (mrgF_new hne)
      have l2 := Lib.hid (mrgF_chg hne)
      have l3 := Lib.hid (mrgF_gon hne)
      rw [hX.out] at l0 l1 l2 l3
      have fx := fitF_of l0.out
      have hpos : 0 < X.length := List.length_pos_iff.2 hn
      have t0 : ((X.length : Int) == 0) = false := by rw [beq_eq_false_iff_ne]; omega
      have t1 : ¬ ((X.length : Int) = 0) := by omega
      have t2 : ¬ (X.length = 0) := by omega
      clear hne
      go_wp2_with fail
      refine (fdI_valid _ X _ hrdx.out fx).mono ?_
      rintro e w6 ⟨rfl, hb6⟩
      rw [l0.out]
      replace hrdA := Lib.hid (hrdA.out.below hb6)
      replace hrdB := Lib.hid (hrdB.out.below hb6)
      replace hrdx := Lib.hid (hrdx.out.below hb6)
      replace hb := Lib.hid (below_trans' hb.out hb6)
      clear hb6
      go_wp2_with fail
      refine (chI_new _ u X B _ hrdx.out hrdB.out fx fb).mono ?_
      rintro e w7 ⟨z, rfl, hownz, hb7⟩
      rw [l1.out] at hownz
      obtain ⟨Az, cz, hz⟩ := OwnF.shape hownz
      rw [List.length_nil] at hz
      subst hz
      replace hrdA := Lib.hid (hrdA.out.below hb7)
      replace hrdB := Lib.hid (hrdB.out.below hb7)
      replace hrdx := Lib.hid (hrdx.out.below hb7)
      replace hb := Lib.hid (below_trans' hb.out hb7)
      clear hb7 hownz
      go_wp2_with fail
      refine (chI_chg _ u X B _ hrdx.out hrdB.out fx fb).mono ?_
      rintro e w8 ⟨z, rfl, hownz, hb8⟩
      rw [l2.out] at hownz
      obtain ⟨Az2, cz2, hz⟩ := OwnF.shape hownz
      rw [List.length_nil] at hz
      subst hz
      replace hrdA := Lib.hid (hrdA.out.below hb8)
      replace hrdx := Lib.hid (hrdx.out.below hb8)
      replace hb := Lib.hid (below_trans' hb.out hb8)
      clear hb8 hownz
      go_wp2_with fail
      refine (chI_gone v _ A X _ hrdA.out hrdx.out fa fx).mono ?_
      rintro e w9 ⟨z, rfl, hownz, hb9⟩
      rw [l3.out] at hownz
      obtain ⟨Az3, cz3, hz⟩ := OwnS.shape hownz
      rw [List.length_nil] at hz
      subst hz
      replace hb := Lib.hid (below_trans' hb.out hb9)
      clear hb9 hownz
      go_wp2
      go_ret
      exact ⟨rfl, hb.out⟩

/-! ### THE ROW's STEP: WRITTEN OUT: LEAVE IT -/
set_option maxRecDepth 100000 in
theorem lifted (os : Os) (started : os.Started) (H : Type) (enc : TypeId × Value → H) :
    ReturnsInHanded {} Try.checked os 7 .any (Rows.fnMergeFeedsSpec.pre6 enc Try.prog Try.f7 Rows.fnMergeFeedsRow.domain false) (Rows.fnMergeFeedsSpec.post enc Try.prog Try.f7 false true false false) := by
  refine returnsInHanded_of_change (C := Try.checked) own started (by kernel_rfl) Try.func7
    (ChangeSpec.witness6 (enc := enc) (C := Try.checked) false ⟨#[], #[.slice none 0 0], []⟩ 8 (by kernel_rfl) (by kernel_rfl) (by kernel_rfl) (by kernel_rfl)) ?_
  intro W base args ds gs before hval0 hW hcnd _
  have hval : ∀ (j : Nat) t v, Try.f7.params[j]? = some t → args[j]? = some v → Value.okWide Try.prog W .any base t v := hval0
  have hW' := hW
  obtain ⟨p, q, hA0, hV, rfl, hfz, hnd⟩ := hW
  have hA : DataW.TrodAll enc Try.prog W 0 (fun _ => true) true Try.f7.params.toList args.toList ds p := hA0
  rw [Try.params7] at hA hval
  obtain ⟨v0, vs0, d0, ds0, p0, q0, hargs, rfl, rfl, h0, r0⟩ := trodAll_cons hA
  obtain ⟨rfl, rfl, rfl⟩ := trodAll_nil r0
  obtain rfl : args = #[v0] := by cases args; simp_all
  obtain ⟨rfl, rfl⟩ := trodVars_none hV
  obtain ⟨a0, len0, cap0, rfl⟩ := okWide_slice Try.underlying22 (hval 0 22 v0 rfl rfl)
  have k0 := h0
  have lt0 : ∀ x ∈ p0, x.block < W.heap.size := by obtain ⟨m, hm⟩ := k0; exact DataW.trod_lt m _ _ _ hm
  obtain ⟨z0, w0⟩ : ∃ zs, IsRow .u8 W a0 len0 cap0 zs := by
    obtain ⟨fuel, hf⟩ := h0
    rcases open_ints Try.underlying22 Try.underlying5 (by kernel_rfl) hf with ⟨hcs, _⟩ | ⟨x, l, c, zs, hcs, _, hl, hm, hz, _, hcell, hwz⟩
    · simp [Value.cells] at hcs
      obtain ⟨rfl, rfl, rfl⟩ := hcs
      exact ⟨[], .inl ⟨rfl, rfl, rfl, rfl⟩⟩
    · simp [Value.cells] at hcs
      obtain ⟨rfl, rfl, rfl⟩ := hcs
      exact ⟨zs, .inr ⟨_, rfl, hl, hm, by simpa using hz, hcell, hwz⟩⟩
  clear hA0 hval0
  refine (walk a0 len0 cap0 z0 W w0).mono fun e W' ⟨he, bel⟩ => ?_
  subst he
  exact ⟨_, rfl, _, _, _, [], _, [], hW', trodAll_mk1 (shut_bool Try.underlying4 _), (trodAll_cons_mk (Below.trod laidOut (by kernel_rfl) (of_decide_eq_true (by kernel_rfl)) k0 bel lt0) trodAll_mk0), rfl, bel.frame _, fun h => by cases h⟩

theorem over : Rows.fnMergeFeedsRow.holds Try.pinned (OpenSpec.ofChange Rows.fnMergeFeedsSpec) :=
  OpenClaim.holds_of_wide 7 Try.f7 rfl rfl rfl rfl rfl rfl rfl ⟨rfl, rfl, rfl, rfl, rfl⟩ rfl rfl rfl rfl rfl (by kernel_rfl) Try.func7 (by kernel_rfl)
    (of_decide_eq_true (by kernel_rfl)) (by unfold Func.isWrapper; first | (rw [if_pos (by decide +kernel)]; kernel_rfl) | (rw [if_neg (by decide +kernel)]; exact ⟨rfl, rfl⟩))
    (fun os started H enc _ => lifted os started H enc)

/-- ████ THE STATEMENT ████ -/
theorem proved : Rows.FnMergeFeedsSaid := over
#print axioms proved
end Go.Proofs.Ytbljpbmpfmnemaa.fnMergeFeeds
