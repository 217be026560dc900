/-
  'FnHandleBefore' answers true at every input, and each argument reads behind the call as before. Conditions: none.
  The frame is the kit's shell (proof-skeleton.mjs); the walk is the verifier's.
-/
import Derived.Test.YtkglbbghgaijnaaRows
import Derived.Test.YtkglbbghgaijnaaHA
import Derived.Test.YtkglbbghgaijnaaHB
import Derived.Test.YtkglbbghgaijnaaGc
import Derived.Lib.Hide
import Derived.Outline
import Derived.BigQuiet
import Derived.Deep.QuietTactic
import Derived.Deep.Draws
import Derived.Laws.OwnMore
import Derived.Laws.Rows
import Derived.WalkSpells
import Derived.Deep.RegionWith
import Derived.WalkKit
import Derived.ProofKit
import Derived.OpenShut
import Derived.ShutString
import Derived.ChangeOld
import Derived.Below
namespace Go.Proofs.Ytkglbbghgaijnaa.fnHandleBefore
open Go.ChangeShapes Go.WideShapes Go.ChangeAt Go.RowKit
open Go.ChangeMaps (open_string shut_string)
set_option linter.unusedVariables false

theorem own : ownKnob Try.prog.godebug = none := by kernel_rfl
theorem laidOut : laidOutB Try.prog = true := by kernel_rfl

/-- WHAT THE WALK IS TOLD OF A SLICE OF INTEGERS THAT CAME IN: it is nil; or it leads to a row of 'cap' cells, the numbers 'zs' (the first 'len' are its elements, the rest its spare room), each fitting its kind. -/
def IsRow (k : IntKind) (w : World) (a : Option Addr) (len cap : Nat) (zs : List Int) : Prop :=
  (a = none ∧ len = 0 ∧ cap = 0 ∧ zs = []) ∨
  ∃ x, a = some x ∧ len ≤ cap ∧ cap ≤ maxLen ∧ zs.length = cap ∧ (∀ i, i < zs.length → w.cell? (x.add i) = some (.int k (zs.getD i 0))) ∧ ∀ n ∈ zs, (Lit.int k n).wf = true

/-! ### STEP 1: THE WALK: the Go text returns true, AND WRITES NOTHING THAT WAS THERE: 'Below w.heap.size w w'' (Derived/Below.lean: '.refl', '.alloc', '.drew', '.setCell' at a new block, '.trans'). Open each 'IsRow' by 'rcases' AHEAD of 'go_enter'; part every test ahead of the walk. -/
set_option maxRecDepth 100000 in
set_option maxHeartbeats 4000000 in
theorem walk (a0 : Option Addr) (len0 cap0 : Nat) (z0 : List Int) (w : World) (w0 : IsRow .u8 w a0 len0 cap0 z0) :
    Calls Try.prog 5 #[.slice a0 len0 cap0] w fun e w' => e = .returned (.bool true) ∧ Below w.heap.size w w' := by
  have hcode := codeArg_of w0
  have hcap := hcode.1
  have hcap2 := hcode.2.1
  unfold maxLen at hcap2
  clear w0
  by_cases hbig : 1048576 < len0
  · go_enter Try.func5, Try.ntmps5
    go_wp2
    go_ret
    exact ⟨rfl, Below.refl _ _⟩
  · go_enter Try.func5, Try.ntmps5
    go_wp2_with fail
    refine (drawHB_any w a0 len0 cap0 hcode).mono ?_
    rintro e w2 ⟨a, b, a', b', rfl, hb2⟩
    have hrow : ∀ wX, Below ((w2.alloc (.cells #[.string a, .string b] 24)).alloc (.cells #[.string a', .string b'] 24)).heap.size ((w2.alloc (.cells #[.string a, .string b] 24)).alloc (.cells #[.string a', .string b'] 24)) wX → (wX.cell? ⟨w2.heap.size, 0, none⟩ = some (.string a) ∧ wX.cell? ⟨w2.heap.size, 1, none⟩ = some (.string b)) ∧ (wX.cell? ⟨w2.heap.size + 1, 0, none⟩ = some (.string a') ∧ wX.cell? ⟨w2.heap.size + 1, 1, none⟩ = some (.string b')) ∧ Below w.heap.size w wX := fun wX hX => by
      have h1 := row2 (w := w2) (a0 := .string a) (a1 := .string b) (T := 24) rfl (wX := wX) (below_trans' ((Below.refl _ _).alloc (Nat.le_refl _) _) hX)
      have h2 := row2 (w := w2.alloc (.cells #[.string a, .string b] 24)) (a0 := .string a') (a1 := .string b') (T := 24) rfl (wX := wX) hX
      rw [show (w2.alloc (.cells #[.string a, .string b] 24)).heap.size = w2.heap.size + 1 by simp] at h2
      exact ⟨h1, h2, below_trans' hb2 (below_trans' (((Below.refl _ _).alloc (Nat.le_refl _) _).alloc (by simp) _) hX)⟩
    have hrow := Lib.hid hrow
    clear hb2
    go_wp2_with fail
    refine (hnLI_any a b a' b' _).mono ?_
    rintro e w5 ⟨rfl, hb5⟩
    have hb5 := Lib.hid hb5
    obtain ⟨⟨r0, r1⟩, ⟨p0, p1⟩, _⟩ := hrow.out w5 hb5.out
    go_wp2_with fail
    refine (hnLS_any a b a' b' _).mono ?_
    rintro e w6 ⟨rfl, hb6⟩
    have hb6 := Lib.hid (below_trans' hb5.out hb6)
    clear r0 r1 p0 p1
    obtain ⟨⟨r0, r1⟩, ⟨p0, p1⟩, _⟩ := hrow.out w6 hb6.out
    have hself := Lib.hid (hnL_self ⟨a, b⟩)
    have hcase : Hid ((hnL ⟨a, b⟩ ⟨a', b'⟩ = false ∧ hnL ⟨a', b'⟩ ⟨a, b⟩ = false ∧ a = a' ∧ b = b') ∨ (hnL ⟨a, b⟩ ⟨a', b'⟩ = true ∧ hnL ⟨a', b'⟩ ⟨a, b⟩ = false ∧ ¬ (a = a' ∧ b = b')) ∨ (hnL ⟨a, b⟩ ⟨a', b'⟩ = false ∧ hnL ⟨a', b'⟩ ⟨a, b⟩ = true ∧ ¬ (a = a' ∧ b = b'))) := Lib.hid (by
      by_cases h : a = a' ∧ b = b'
      · obtain ⟨rfl, rfl⟩ := h
        exact .inl ⟨hnL_self _, hnL_self _, rfl, rfl⟩
      · rcases hnL_one (x := ⟨a, b⟩) (y := ⟨a', b'⟩) (fun e => h (by injection e with e1 e2; exact ⟨e1, e2⟩)) with ⟨k1, k2⟩ | ⟨k1, k2⟩
        · exact .inr (.inl ⟨k1, k2, h⟩)
        · exact .inr (.inr ⟨k1, k2, h⟩))
    go_wp2_with fail
    refine (hnLI_any a' b' a b _).mono ?_
    rintro e w7 ⟨rfl, hb7⟩
    have hb7 := Lib.hid (below_trans' hb6.out hb7)
    clear r0 r1 p0 p1
    obtain ⟨⟨r0, r1⟩, ⟨p0, p1⟩, _⟩ := hrow.out w7 hb7.out
    obtain ⟨k1, hk1⟩ : ∃ k1, hnL ⟨a, b⟩ ⟨a', b'⟩ = k1 := ⟨_, rfl⟩
    obtain ⟨k2, hk2⟩ : ∃ k2, hnL ⟨a', b'⟩ ⟨a, b⟩ = k2 := ⟨_, rfl⟩
    rw [hk1, hk2] at hcase ⊢
    clear hk1 hk2
    have hc3 : ∃ q1 q2 : Bool, Hid ((a.toList == a'.toList) = q1 ∧ (b.toList == b'.toList) = q2) ∧ ((k1 = false ∧ k2 = false ∧ q1 = true ∧ q2 = true) ∨ (k1 = true ∧ k2 = false ∧ (q1 && q2) = false) ∨ (k1 = false ∧ k2 = true ∧ (q1 && q2) = false)) := by
      have hne : ∀ (_ : ¬ (a = a' ∧ b = b')), ((a.toList == a'.toList) && (b.toList == b'.toList)) = false := fun h => by
        by_cases ha : a = a'
        · have hb : ¬ b = b' := fun q => h ⟨ha, q⟩
          rw [str_other hb, Bool.and_false]
        · rw [str_other ha, Bool.false_and]
      rcases hcase.out with ⟨h1, h2, h3, h4⟩ | ⟨h1, h2, h3⟩ | ⟨h1, h2, h3⟩
      · exact ⟨true, true, Lib.hid ⟨str_same h3, str_same h4⟩, .inl ⟨h1, h2, rfl, rfl⟩⟩
      · exact ⟨_, _, Lib.hid ⟨rfl, rfl⟩, .inr (.inl ⟨h1, h2, hne h3⟩)⟩
      · exact ⟨_, _, Lib.hid ⟨rfl, rfl⟩, .inr (.inr ⟨h1, h2, hne h3⟩)⟩
    obtain ⟨q1, q2, hq, hc⟩ := hc3
    obtain ⟨hq1, hq2⟩ := hq.out
    clear hcase
    have hc' : (k1 = false ∧ k2 = false ∧ q1 = true ∧ q2 = true) ∨ (k1 = true ∧ k2 = false ∧ q1 = false) ∨ (k1 = true ∧ k2 = false ∧ q1 = true ∧ q2 = false) ∨ (k1 = false ∧ k2 = true ∧ q1 = false) ∨ (k1 = false ∧ k2 = true ∧ q1 = true ∧ q2 = false) := by
      clear hq hq1 hq2 r0 r1 p0 p1
      revert hc
      cases k1 <;> cases k2 <;> cases q1 <;> cases q2 <;> decide
    clear hc hq
    rcases hc' with ⟨rfl, rfl, rfl, rfl⟩ | ⟨rfl, rfl, rfl⟩ | ⟨rfl, rfl, rfl, rfl⟩ | ⟨rfl, rfl, rfl⟩ | ⟨rfl, rfl, rfl, rfl⟩
    all_goals
      go_wp2_with (first | (go_at_call 19; ((with_reducible refine (hnLI_any a b a b _).mono ?_); rintro e w8 ⟨rfl, hb8⟩; rw [hself.out]; have hb8 := Lib.hid (below_trans' hb7.out hb8))) | (go_at_call 14; refine (alive_any _).mono ?_; rintro e w' ⟨rfl, rfl⟩))
      go_ret
      exact ⟨rfl, (hrow.out _ hb8.out).2.2⟩

/-! ### THE ROW's STEP: WRITTEN OUT: LEAVE IT -/
set_option maxRecDepth 100000 in
theorem lifted (os : Os) (started : os.Started) (H : Type) (enc : TypeId × Value → H) :
    ReturnsInHanded {} Try.checked os 5 .any (Rows.fnHandleBeforeSpec.pre6 enc Try.prog Try.f5 Rows.fnHandleBeforeRow.domain false) (Rows.fnHandleBeforeSpec.post enc Try.prog Try.f5 false true false false) := by
  refine returnsInHanded_of_change (C := Try.checked) own started (by kernel_rfl) Try.func5
    (ChangeSpec.witness6 (enc := enc) (C := Try.checked) false ⟨#[], #[.slice none 0 0], []⟩ 8 (by kernel_rfl) (by kernel_rfl) (by kernel_rfl) (by kernel_rfl)) ?_
  intro W base args ds gs before hval0 hW hcnd _
  have hval : ∀ (j : Nat) t v, Try.f5.params[j]? = some t → args[j]? = some v → Value.okWide Try.prog W .any base t v := hval0
  have hW' := hW
  obtain ⟨p, q, hA0, hV, rfl, hfz, hnd⟩ := hW
  have hA : DataW.TrodAll enc Try.prog W 0 (fun _ => true) true Try.f5.params.toList args.toList ds p := hA0
  rw [Try.params5] at hA hval
  obtain ⟨v0, vs0, d0, ds0, p0, q0, hargs, rfl, rfl, h0, r0⟩ := trodAll_cons hA
  obtain ⟨rfl, rfl, rfl⟩ := trodAll_nil r0
  obtain rfl : args = #[v0] := by cases args; simp_all
  obtain ⟨rfl, rfl⟩ := trodVars_none hV
  obtain ⟨a0, len0, cap0, rfl⟩ := okWide_slice Try.underlying22 (hval 0 22 v0 rfl rfl)
  have k0 := h0
  have lt0 : ∀ x ∈ p0, x.block < W.heap.size := by obtain ⟨m, hm⟩ := k0; exact DataW.trod_lt m _ _ _ hm
  obtain ⟨z0, w0⟩ : ∃ zs, IsRow .u8 W a0 len0 cap0 zs := by
    obtain ⟨fuel, hf⟩ := h0
    rcases open_ints Try.underlying22 Try.underlying5 (by kernel_rfl) hf with ⟨hcs, _⟩ | ⟨x, l, c, zs, hcs, _, hl, hm, hz, _, hcell, hwz⟩
    · simp [Value.cells] at hcs
      obtain ⟨rfl, rfl, rfl⟩ := hcs
      exact ⟨[], .inl ⟨rfl, rfl, rfl, rfl⟩⟩
    · simp [Value.cells] at hcs
      obtain ⟨rfl, rfl, rfl⟩ := hcs
      exact ⟨zs, .inr ⟨_, rfl, hl, hm, by simpa using hz, hcell, hwz⟩⟩
  clear hA0 hval0
  refine (walk a0 len0 cap0 z0 W w0).mono fun e W' ⟨he, bel⟩ => ?_
  subst he
  exact ⟨_, rfl, _, _, _, [], _, [], hW', trodAll_mk1 (shut_bool Try.underlying4 _), (trodAll_cons_mk (Below.trod laidOut (by kernel_rfl) (of_decide_eq_true (by kernel_rfl)) k0 bel lt0) trodAll_mk0), rfl, bel.frame _, fun h => by cases h⟩

theorem over : Rows.fnHandleBeforeRow.holds Try.pinned (OpenSpec.ofChange Rows.fnHandleBeforeSpec) :=
  OpenClaim.holds_of_wide 5 Try.f5 rfl rfl rfl rfl rfl rfl rfl ⟨rfl, rfl, rfl, rfl, rfl⟩ rfl rfl rfl rfl rfl (by kernel_rfl) Try.func5 (by kernel_rfl)
    (of_decide_eq_true (by kernel_rfl)) (by unfold Func.isWrapper; first | (rw [if_pos (by decide +kernel)]; kernel_rfl) | (rw [if_neg (by decide +kernel)]; exact ⟨rfl, rfl⟩))
    (fun os started H enc _ => lifted os started H enc)

/-- ████ THE STATEMENT ████ -/
theorem proved : Rows.FnHandleBeforeSaid := over
#print axioms proved
end Go.Proofs.Ytkglbbghgaijnaa.fnHandleBefore
