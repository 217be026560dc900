/-
  'FnKeyModulus' answers true at every input, and each argument reads behind the call as before. Conditions: none.
  The frame is the kit's shell (proof-skeleton.mjs); the walk is the verifier's.
-/
import Derived.Test.YthjjagfghbljpaaRows
import Derived.Test.YthjjagfghbljpaaJD
import Derived.Test.YthjjagfghbljpaaJG
import Derived.Test.YthjjagfghbljpaaGc
import Derived.Lib.Hide
import Derived.Outline
import Derived.BigQuiet
import Derived.Deep.QuietTactic
import Derived.Deep.Draws
import Derived.Laws.OwnMore
import Derived.Laws.Rows
import Derived.WalkSpells
import Derived.Deep.RegionWith
import Derived.WalkKit
import Derived.ProofKit
import Derived.OpenShut
import Derived.ShutString
import Derived.ChangeOld
import Derived.Below
namespace Go.Proofs.Ythjjagfghbljpaa.fnKeyModulus
open Go.ChangeShapes Go.WideShapes Go.ChangeAt Go.RowKit
open Go.ChangeMaps (open_string shut_string)
set_option linter.unusedVariables false

theorem own : ownKnob Try.prog.godebug = none := by kernel_rfl
theorem laidOut : laidOutB Try.prog = true := by kernel_rfl

/-- WHAT THE WALK IS TOLD OF A SLICE OF INTEGERS THAT CAME IN: it is nil; or it leads to a row of 'cap' cells, the numbers 'zs' (the first 'len' are its elements, the rest its spare room), each fitting its kind. -/
def IsRow (k : IntKind) (w : World) (a : Option Addr) (len cap : Nat) (zs : List Int) : Prop :=
  (a = none ∧ len = 0 ∧ cap = 0 ∧ zs = []) ∨
  ∃ x, a = some x ∧ len ≤ cap ∧ cap ≤ maxLen ∧ zs.length = cap ∧ (∀ i, i < zs.length → w.cell? (x.add i) = some (.int k (zs.getD i 0))) ∧ ∀ n ∈ zs, (Lit.int k n).wf = true

/-! ### STEP 1: THE WALK: the Go text returns true, AND WRITES NOTHING THAT WAS THERE: 'Below w.heap.size w w'' (Derived/Below.lean: '.refl', '.alloc', '.drew', '.setCell' at a new block, '.trans'). Open each 'IsRow' by 'rcases' AHEAD of 'go_enter'; part every test ahead of the walk. -/
set_option maxRecDepth 100000 in
set_option maxHeartbeats 4000000 in
theorem walk (a0 : Option Addr) (len0 cap0 : Nat) (z0 : List Int) (w : World) (w0 : IsRow .u8 w a0 len0 cap0 z0) :
    Calls Try.prog 4 #[.slice a0 len0 cap0] w fun e w' => e = .returned (.bool true) ∧ Below w.heap.size w w' := by
  have hcode := codeArg_of w0
  have hcap := hcode.1
  have hcap2 := hcode.2.1
  unfold maxLen at hcap2
  clear w0
  by_cases hbig : 1048576 < len0
  · go_enter Try.func4, Try.ntmps4
    go_wp2
    go_ret
    exact ⟨rfl, Below.refl _ _⟩
  · go_enter Try.func4, Try.ntmps4
    go_wp2_with fail
    refine (drawKyM_any w a0 len0 cap0 hcode).mono ?_
    rintro e w2 ⟨⟨a, b, e⟩, rfl, hsh, hb2⟩
    have hB := Lib.hid hb2
    clear hb2
    clear hsh
    obtain ⟨N, hN⟩ : ∃ N, kyM ⟨a, b, e⟩ = N := ⟨_, rfl⟩
    have HN := Lib.hid hN
    have HS : Hid (kyM ⟨b, a, e⟩ = N) := Lib.hid (by rw [kyM_swap, hN])
    have e0 : (N == N) = true := by simp
    simp only [aggKy]
    obtain ⟨x3, hx3⟩ : ∃ x3, w2.alloc (.cells #[.int .i64 a, .int .i64 b, .int .i64 e] 24) = x3 := ⟨_, rfl⟩
    have gx3 : Below w2.heap.size w2 x3 := by rw [← hx3]; exact (Below.refl _ _).alloc (Nat.le_refl _) _
    replace hB := Lib.hid (below_trans' hB.out gx3)
    clear gx3
    have K0 := Lib.hid (Below.refl x3.heap.size x3)
    have R0 := Lib.hid (fun wX (hX : Below x3.heap.size x3 wX) => row3 hx3 hX)
    obtain ⟨y0_0, y0_1, y0_2⟩ := R0.out _ K0.out
    go_wp2_with fail
    have hx3 := Lib.hid hx3
    refine (kyI_mod a b e _).mono ?_
    rintro e w3 ⟨rfl, hb3⟩
    rw [HN.out]
    replace hB := Lib.hid (below_trans' hB.out hb3)
    replace K0 := Lib.hid (below_trans' K0.out hb3)
    clear hb3
    clear y0_0 y0_1 y0_2
    obtain ⟨y0_0, y0_1, y0_2⟩ := R0.out _ K0.out
    go_wp2_with fail
    refine (kyS_mod a b e _).mono ?_
    rintro e w4 ⟨rfl, hb4⟩
    rw [HN.out]
    replace hB := Lib.hid (below_trans' hB.out hb4)
    replace K0 := Lib.hid (below_trans' K0.out hb4)
    clear hb4
    clear y0_0 y0_1 y0_2
    obtain ⟨y0_0, y0_1, y0_2⟩ := R0.out _ K0.out
    go_wp2_with fail
    refine (kyI_mod b a e _).mono ?_
    rintro e w5 ⟨rfl, hb5⟩
    rw [HS.out]
    replace hB := Lib.hid (below_trans' hB.out hb5)
    replace K0 := Lib.hid (below_trans' K0.out hb5)
    clear hb5
    clear y0_0 y0_1 y0_2
    obtain ⟨y0_0, y0_1, y0_2⟩ := R0.out _ K0.out
    by_cases h0 : N < 0
    · have hn1 : N = -1 := by have := kyM_rng ⟨a, b, e⟩; omega
      clear h0 hN
      subst hn1
      go_wp2_with (first | (go_at_call 14; ((with_reducible refine (alive_any _).mono ?_); rintro e w' ⟨rfl, rfl⟩)))
      go_ret
      exact ⟨rfl, hB.out⟩
    · have d0 : decide (N < 0) = false := decide_eq_false h0
      have hk := kyM_got (k := ⟨a, b, e⟩) (by omega)
      have hm := kyM_in hk
      have hr := kyM_rng ⟨a, b, e⟩
      have ho := (kyB_of hk).o
      have ht := (kyB_of hk).t
      unfold PrIn at ho ht
      simp only at hm ho ht
      rw [hN] at hm hr
      have d1 : decide (N ≤ 1000000) = true := decide_eq_true (by omega)
      have i1 : N.tmod a = 0 := by rw [hm, Int.tmod_eq_emod_of_nonneg (Int.mul_nonneg (by omega) (by omega))]; exact Int.mul_emod_right a b
      have i2 : N.tmod b = 0 := by rw [hm, Int.tmod_eq_emod_of_nonneg (Int.mul_nonneg (by omega) (by omega))]; exact Int.mul_emod_left a b
      have n1 : ¬ a = 0 := by omega
      have n2 : ¬ b = 0 := by omega
      clear hk hm hr ho ht hN h0
      go_wp2
      go_ret
      exact ⟨rfl, hB.out⟩

/-! ### THE ROW's STEP: WRITTEN OUT: LEAVE IT -/
set_option maxRecDepth 100000 in
theorem lifted (os : Os) (started : os.Started) (H : Type) (enc : TypeId × Value → H) :
    ReturnsInHanded {} Try.checked os 4 .any (Rows.fnKeyModulusSpec.pre6 enc Try.prog Try.f4 Rows.fnKeyModulusRow.domain false) (Rows.fnKeyModulusSpec.post enc Try.prog Try.f4 false true false false) := by
  refine returnsInHanded_of_change (C := Try.checked) own started (by kernel_rfl) Try.func4
    (ChangeSpec.witness6 (enc := enc) (C := Try.checked) false ⟨#[], #[.slice none 0 0], []⟩ 8 (by kernel_rfl) (by kernel_rfl) (by kernel_rfl) (by kernel_rfl)) ?_
  intro W base args ds gs before hval0 hW hcnd _
  have hval : ∀ (j : Nat) t v, Try.f4.params[j]? = some t → args[j]? = some v → Value.okWide Try.prog W .any base t v := hval0
  have hW' := hW
  obtain ⟨p, q, hA0, hV, rfl, hfz, hnd⟩ := hW
  have hA : DataW.TrodAll enc Try.prog W 0 (fun _ => true) true Try.f4.params.toList args.toList ds p := hA0
  rw [Try.params4] at hA hval
  obtain ⟨v0, vs0, d0, ds0, p0, q0, hargs, rfl, rfl, h0, r0⟩ := trodAll_cons hA
  obtain ⟨rfl, rfl, rfl⟩ := trodAll_nil r0
  obtain rfl : args = #[v0] := by cases args; simp_all
  obtain ⟨rfl, rfl⟩ := trodVars_none hV
  obtain ⟨a0, len0, cap0, rfl⟩ := okWide_slice Try.underlying22 (hval 0 22 v0 rfl rfl)
  have k0 := h0
  have lt0 : ∀ x ∈ p0, x.block < W.heap.size := by obtain ⟨m, hm⟩ := k0; exact DataW.trod_lt m _ _ _ hm
  obtain ⟨z0, w0⟩ : ∃ zs, IsRow .u8 W a0 len0 cap0 zs := by
    obtain ⟨fuel, hf⟩ := h0
    rcases open_ints Try.underlying22 Try.underlying5 (by kernel_rfl) hf with ⟨hcs, _⟩ | ⟨x, l, c, zs, hcs, _, hl, hm, hz, _, hcell, hwz⟩
    · simp [Value.cells] at hcs
      obtain ⟨rfl, rfl, rfl⟩ := hcs
      exact ⟨[], .inl ⟨rfl, rfl, rfl, rfl⟩⟩
    · simp [Value.cells] at hcs
      obtain ⟨rfl, rfl, rfl⟩ := hcs
      exact ⟨zs, .inr ⟨_, rfl, hl, hm, by simpa using hz, hcell, hwz⟩⟩
  clear hA0 hval0
  refine (walk a0 len0 cap0 z0 W w0).mono fun e W' ⟨he, bel⟩ => ?_
  subst he
  exact ⟨_, rfl, _, _, _, [], _, [], hW', trodAll_mk1 (shut_bool Try.underlying4 _), (trodAll_cons_mk (Below.trod laidOut (by kernel_rfl) (of_decide_eq_true (by kernel_rfl)) k0 bel lt0) trodAll_mk0), rfl, bel.frame _, fun h => by cases h⟩

theorem over : Rows.fnKeyModulusRow.holds Try.pinned (OpenSpec.ofChange Rows.fnKeyModulusSpec) :=
  OpenClaim.holds_of_wide 4 Try.f4 rfl rfl rfl rfl rfl rfl rfl ⟨rfl, rfl, rfl, rfl, rfl⟩ rfl rfl rfl rfl rfl (by kernel_rfl) Try.func4 (by kernel_rfl)
    (of_decide_eq_true (by kernel_rfl)) (by unfold Func.isWrapper; first | (rw [if_pos (by decide +kernel)]; kernel_rfl) | (rw [if_neg (by decide +kernel)]; exact ⟨rfl, rfl⟩))
    (fun os started H enc _ => lifted os started H enc)

/-- ████ THE STATEMENT ████ -/
theorem proved : Rows.FnKeyModulusSaid := over
#print axioms proved
end Go.Proofs.Ythjjagfghbljpaa.fnKeyModulus
