/-
  'FnFeedLines' answers true at every input, and each argument reads behind the call as before. Conditions: none.
  The frame is the kit's shell (proof-skeleton.mjs); the walk is the verifier's.
-/
import Derived.Test.YteknjaocamlcpaaRows
import Derived.Test.YteknjaocamlcpaaGr
import Derived.Test.YteknjaocamlcpaaGu
import Derived.Test.YteknjaocamlcpaaGv
import Derived.Test.YteknjaocamlcpaaGy
import Derived.Test.YteknjaocamlcpaaGc
import Derived.Lib.Hide
import Derived.Outline
import Derived.BigQuiet
import Derived.Deep.QuietTactic
import Derived.Deep.Draws
import Derived.Laws.OwnMore
import Derived.Laws.Rows
import Derived.WalkSpells
import Derived.Deep.RegionWith
import Derived.WalkKit
import Derived.ProofKit
import Derived.OpenShut
import Derived.ShutString
import Derived.ChangeOld
import Derived.Below
namespace Go.Proofs.Yteknjaocamlcpaa.fnFeedLines
open Go.ChangeShapes Go.WideShapes Go.ChangeAt Go.RowKit
open Go.ChangeMaps (open_string shut_string)
set_option linter.unusedVariables false

theorem own : ownKnob Try.prog.godebug = none := by kernel_rfl
theorem laidOut : laidOutB Try.prog = true := by kernel_rfl

/-- WHAT THE WALK IS TOLD OF A SLICE OF INTEGERS THAT CAME IN: it is nil; or it leads to a row of 'cap' cells, the numbers 'zs' (the first 'len' are its elements, the rest its spare room), each fitting its kind. -/
def IsRow (k : IntKind) (w : World) (a : Option Addr) (len cap : Nat) (zs : List Int) : Prop :=
  (a = none ∧ len = 0 ∧ cap = 0 ∧ zs = []) ∨
  ∃ x, a = some x ∧ len ≤ cap ∧ cap ≤ maxLen ∧ zs.length = cap ∧ (∀ i, i < zs.length → w.cell? (x.add i) = some (.int k (zs.getD i 0))) ∧ ∀ n ∈ zs, (Lit.int k n).wf = true

/-! ### STEP 1: THE WALK: the Go text returns true, AND WRITES NOTHING THAT WAS THERE: 'Below w.heap.size w w'' (Derived/Below.lean: '.refl', '.alloc', '.drew', '.setCell' at a new block, '.trans'). Open each 'IsRow' by 'rcases' AHEAD of 'go_enter'; part every test ahead of the walk. -/
set_option maxRecDepth 100000 in
set_option maxHeartbeats 4000000 in
theorem walk (a0 : Option Addr) (len0 cap0 : Nat) (z0 : List Int) (w : World) (w0 : IsRow .u8 w a0 len0 cap0 z0) :
    Calls Try.prog 4 #[.slice a0 len0 cap0] w fun e w' => e = .returned (.bool true) ∧ Below w.heap.size w w' := by
  have hcode := codeArg_of w0
  have hcap := hcode.1
  have hcap2 := hcode.2.1
  unfold maxLen at hcap2
  clear w0
  by_cases hbig : 1048576 < len0
  · go_enter Try.func4, Try.ntmps4
    go_wp2
    go_ret
    exact ⟨rfl, Below.refl _ _⟩
  · go_enter Try.func4, Try.ntmps4
    go_wp2_with fail
    refine (drawFL_any w a0 len0 cap0 hcode).mono ?_
    rintro e w2 ⟨v, L, rfl, h7, hsh, hown, hb2⟩
    have hfit := fit_shortF hsh
    have hrd2 := OwnG.rd hown
    have hb2 := Lib.hid hb2
    clear hsh hown
    go_wp2_with fail
    refine (fdI_lines v L _ hrd2 hfit).mono ?_
    rintro e w3 ⟨g3, rfl, hown3, hb3⟩
    have hrd3 := hrd2.below hb3
    have hrdg3 := OwnG.rd hown3
    have hb3 := Lib.hid (below_trans' hb2.out hb3)
    clear hown3
    go_wp2_with fail
    refine (fdS_lines v L _ hrd3 hfit).mono ?_
    rintro e w4 ⟨u4, rfl, hown4, hb4⟩
    have hrd4 := hrd3.below hb4
    have hrdg4 := hrdg3.below hb4
    have hrdu4 := OwnG.rd hown4
    have hb4 := Lib.hid (below_trans' hb3.out hb4)
    clear hown4
    go_wp2_with fail
    refine (sameS_any g3 u4 _ _ hrdg4 hrdu4).mono ?_
    rintro e w5 ⟨rfl, n5, rfl⟩
    have hrd5 := hrd4.below (below_drewN w4 n5)
    have hrdg5 := hrdg4.below (below_drewN w4 n5)
    have hb5 := Lib.hid (below_trans' hb4.out (below_drewN w4 n5))
    obtain ⟨w5, hw5⟩ : ∃ w5, w4.drewN n5 = w5 := ⟨_, rfl⟩
    rw [hw5] at hrd5 hrdg5 hb5 ⊢
    clear hw5 hrdu4
    obtain ⟨AG, cG, hG⟩ : ∃ AG cG, g3 = .slice AG (fdL L).length cG := by obtain ⟨A, c, hv, _⟩ := hrdg5; exact ⟨A, c, hv⟩
    subst hG
    go_wp2_with fail
    refine (fdS_valid v L _ hrd5 hfit).mono ?_
    rintro e w6 ⟨rfl, hb6⟩
    have hrd6 := hrd5.below hb6
    have hrdg6 := hrdg5.below hb6
    have hb6 := Lib.hid (below_trans' hb5.out hb6)
    rcases hB : fdB L with _ | _
    · have hz : (fdL L).length = 0 := by rw [fdL_out hB]; rfl
      rw [hz]
      go_wp2_with (go_at_call 15; refine (alive_any _).mono ?_; rintro e w' ⟨rfl, rfl⟩)
      go_ret
      exact ⟨rfl, hb6.out⟩
    · have hrf : Hid (rfF [] 0 (fdL L) = (L, 0)) := Lib.hid (by rw [fdL_in hB]; exact rfF_lines (out := []) (by simpa using hB))
      have hfs : FitS (fdL L) := fun s m => by
        rw [fdL_in hB] at m
        obtain ⟨i, _, rfl⟩ := List.mem_map.1 m
        rw [bs_size]; have := itT_len i; omega
      go_wp2_with fail
      refine (fdI_read _ (fdL L) _ hrdg6 hfs).mono ?_
      rintro e w7 ⟨y7, rfl, hown7, hb7⟩
      rw [hrf.out] at hown7 ⊢
      have hrd7 := hrd6.below hb7
      have hrdy7 := OwnG.rd hown7
      have hb7 := Lib.hid (below_trans' hb6.out hb7)
      clear hown7
      go_wp2_with fail
      refine (sameF_any y7 v L _ hrdy7 hrd7).mono ?_
      rintro e w8 ⟨rfl, n8, rfl⟩
      go_wp2
      go_ret
      exact ⟨rfl, below_trans' hb7.out (below_drewN w7 n8)⟩

/-! ### THE ROW's STEP: WRITTEN OUT: LEAVE IT -/
set_option maxRecDepth 100000 in
theorem lifted (os : Os) (started : os.Started) (H : Type) (enc : TypeId × Value → H) :
    ReturnsInHanded {} Try.checked os 4 .any (Rows.fnFeedLinesSpec.pre6 enc Try.prog Try.f4 Rows.fnFeedLinesRow.domain false) (Rows.fnFeedLinesSpec.post enc Try.prog Try.f4 false true false false) := by
  refine returnsInHanded_of_change (C := Try.checked) own started (by kernel_rfl) Try.func4
    (ChangeSpec.witness6 (enc := enc) (C := Try.checked) false ⟨#[], #[.slice none 0 0], []⟩ 8 (by kernel_rfl) (by kernel_rfl) (by kernel_rfl) (by kernel_rfl)) ?_
  intro W base args ds gs before hval0 hW hcnd _
  have hval : ∀ (j : Nat) t v, Try.f4.params[j]? = some t → args[j]? = some v → Value.okWide Try.prog W .any base t v := hval0
  have hW' := hW
  obtain ⟨p, q, hA0, hV, rfl, hfz, hnd⟩ := hW
  have hA : DataW.TrodAll enc Try.prog W 0 (fun _ => true) true Try.f4.params.toList args.toList ds p := hA0
  rw [Try.params4] at hA hval
  obtain ⟨v0, vs0, d0, ds0, p0, q0, hargs, rfl, rfl, h0, r0⟩ := trodAll_cons hA
  obtain ⟨rfl, rfl, rfl⟩ := trodAll_nil r0
  obtain rfl : args = #[v0] := by cases args; simp_all
  obtain ⟨rfl, rfl⟩ := trodVars_none hV
  obtain ⟨a0, len0, cap0, rfl⟩ := okWide_slice Try.underlying22 (hval 0 22 v0 rfl rfl)
  have k0 := h0
  have lt0 : ∀ x ∈ p0, x.block < W.heap.size := by obtain ⟨m, hm⟩ := k0; exact DataW.trod_lt m _ _ _ hm
  obtain ⟨z0, w0⟩ : ∃ zs, IsRow .u8 W a0 len0 cap0 zs := by
    obtain ⟨fuel, hf⟩ := h0
    rcases open_ints Try.underlying22 Try.underlying5 (by kernel_rfl) hf with ⟨hcs, _⟩ | ⟨x, l, c, zs, hcs, _, hl, hm, hz, _, hcell, hwz⟩
    · simp [Value.cells] at hcs
      obtain ⟨rfl, rfl, rfl⟩ := hcs
      exact ⟨[], .inl ⟨rfl, rfl, rfl, rfl⟩⟩
    · simp [Value.cells] at hcs
      obtain ⟨rfl, rfl, rfl⟩ := hcs
      exact ⟨zs, .inr ⟨_, rfl, hl, hm, by simpa using hz, hcell, hwz⟩⟩
  clear hA0 hval0
  refine (walk a0 len0 cap0 z0 W w0).mono fun e W' ⟨he, bel⟩ => ?_
  subst he
  exact ⟨_, rfl, _, _, _, [], _, [], hW', trodAll_mk1 (shut_bool Try.underlying4 _), (trodAll_cons_mk (Below.trod laidOut (by kernel_rfl) (of_decide_eq_true (by kernel_rfl)) k0 bel lt0) trodAll_mk0), rfl, bel.frame _, fun h => by cases h⟩

theorem over : Rows.fnFeedLinesRow.holds Try.pinned (OpenSpec.ofChange Rows.fnFeedLinesSpec) :=
  OpenClaim.holds_of_wide 4 Try.f4 rfl rfl rfl rfl rfl rfl rfl ⟨rfl, rfl, rfl, rfl, rfl⟩ rfl rfl rfl rfl rfl (by kernel_rfl) Try.func4 (by kernel_rfl)
    (of_decide_eq_true (by kernel_rfl)) (by unfold Func.isWrapper; first | (rw [if_pos (by decide +kernel)]; kernel_rfl) | (rw [if_neg (by decide +kernel)]; exact ⟨rfl, rfl⟩))
    (fun os started H enc _ => lifted os started H enc)

/-- ████ THE STATEMENT ████ -/
theorem proved : Rows.FnFeedLinesSaid := over
#print axioms proved
end Go.Proofs.Yteknjaocamlcpaa.fnFeedLines
