/-
  'FnDigestOf' answers true at every input, and each argument reads behind the call as before. Conditions: none.
  The frame is the kit's shell (proof-skeleton.mjs); the walk is the verifier's.
-/
import Derived.Test.YtfihfnajgkmhhaaRows
import Derived.Test.YtfihfnajgkmhhaaJD
import Derived.Test.YtfihfnajgkmhhaaJC
import Derived.Test.YtfihfnajgkmhhaaJG
import Derived.Test.YtfihfnajgkmhhaaGc
import Derived.Lib.Hide
import Derived.Outline
import Derived.BigQuiet
import Derived.Deep.QuietTactic
import Derived.Deep.Draws
import Derived.Laws.OwnMore
import Derived.Laws.Rows
import Derived.WalkSpells
import Derived.Deep.RegionWith
import Derived.WalkKit
import Derived.ProofKit
import Derived.OpenShut
import Derived.ShutString
import Derived.ChangeOld
import Derived.Below
namespace Go.Proofs.Ytfihfnajgkmhhaa.fnDigestOf
open Go.ChangeShapes Go.WideShapes Go.ChangeAt Go.RowKit
open Go.ChangeMaps (open_string shut_string)
set_option linter.unusedVariables false

theorem own : ownKnob Try.prog.godebug = none := by kernel_rfl
theorem laidOut : laidOutB Try.prog = true := by kernel_rfl

/-- WHAT THE WALK IS TOLD OF A SLICE OF INTEGERS THAT CAME IN: it is nil; or it leads to a row of 'cap' cells, the numbers 'zs' (the first 'len' are its elements, the rest its spare room), each fitting its kind. -/
def IsRow (k : IntKind) (w : World) (a : Option Addr) (len cap : Nat) (zs : List Int) : Prop :=
  (a = none ∧ len = 0 ∧ cap = 0 ∧ zs = []) ∨
  ∃ x, a = some x ∧ len ≤ cap ∧ cap ≤ maxLen ∧ zs.length = cap ∧ (∀ i, i < zs.length → w.cell? (x.add i) = some (.int k (zs.getD i 0))) ∧ ∀ n ∈ zs, (Lit.int k n).wf = true

/-! ### STEP 1: THE WALK: the Go text returns true, AND WRITES NOTHING THAT WAS THERE: 'Below w.heap.size w w'' (Derived/Below.lean: '.refl', '.alloc', '.drew', '.setCell' at a new block, '.trans'). Open each 'IsRow' by 'rcases' AHEAD of 'go_enter'; part every test ahead of the walk. -/
set_option maxRecDepth 100000 in
set_option maxHeartbeats 4000000 in
theorem walk (a0 : Option Addr) (len0 cap0 : Nat) (z0 : List Int) (w : World) (w0 : IsRow .u8 w a0 len0 cap0 z0) :
    Calls Try.prog 3 #[.slice a0 len0 cap0] w fun e w' => e = .returned (.bool true) ∧ Below w.heap.size w w' := by
  have hcode := codeArg_of w0
  have hcap := hcode.1
  have hcap2 := hcode.2.1
  unfold maxLen at hcap2
  clear w0
  by_cases hbig : 1048576 < len0
  · go_enter Try.func3, Try.ntmps3
    go_wp2
    go_ret
    exact ⟨rfl, Below.refl _ _⟩
  · go_enter Try.func3, Try.ntmps3
    go_wp2_with (go_at_call 9; refine (drawDgO_any w a0 len0 cap0 hcode).mono ?_; rintro e w2 ⟨s, hs, rfl, hb⟩)
    have hm : s.size ≤ maxLen := by unfold maxLen; omega
    obtain ⟨N, hN⟩ : ∃ N, dgO s.data.toList = N := ⟨_, rfl⟩
    have HN := Lib.hid hN
    have e0 : (N == N) = true := by simp
    rcases ht : textB s.data.toList with _ | _
    · have hn1 : N = -1 := by rw [← hN]; exact dgO_out ht
      clear hN ht
      subst hn1
      go_wp2_with (first | (go_at_call 10; ((with_reducible refine (dgP_of s _ hm).mono ?_); rintro e w' ⟨rfl, rfl⟩; rw [HN.out])) | (go_at_call 11; ((with_reducible refine (dgS_of s _ hm).mono ?_); rintro e w' ⟨rfl, rfl⟩; rw [HN.out])) | (go_at_call 12; ((with_reducible refine (alive_any _).mono ?_); rintro e w' ⟨rfl, rfl⟩)))
      go_ret
      exact ⟨rfl, hb⟩
    · have hlo := dgL_lo s.data.toList
      rw [← dgO_in ht, hN] at hlo
      have d0 : decide (N < 0) = false := decide_eq_false (by omega)
      have d1 : decide (N < 999983) = true := decide_eq_true hlo.2
      have d2 : decide (-1 ≤ N) = true := decide_eq_true (by omega)
      by_cases h80 : s.size = 80
      · have t1 : ((s.size : Int) == 80) = true := by rw [beq_iff_eq]; omega
        clear hN ht hlo h80
        go_wp2_with (first | (go_at_call 10; ((with_reducible refine (dgP_of s _ hm).mono ?_); rintro e w' ⟨rfl, rfl⟩; rw [HN.out])) | (go_at_call 11; ((with_reducible refine (dgS_of s _ hm).mono ?_); rintro e w' ⟨rfl, rfl⟩; rw [HN.out])) | (go_at_call 12; ((with_reducible refine (alive_any _).mono ?_); rintro e w' ⟨rfl, rfl⟩)))
        go_ret
        exact ⟨rfl, hb⟩
      · have t1 : ((s.size : Int) == 80) = false := by rw [beq_eq_false_iff_ne]; omega
        have hl80 : s.data.toList.length < 80 := by
          have := ht
          unfold textB at this
          simp only [Bool.and_eq_true, decide_eq_true_eq] at this
          rw [blen] at this ⊢; omega
        obtain ⟨hne, hmo⟩ := dgO_last ht hl80
        have ea : (s ++ ⟨#[97]⟩ : ByteArray).data.toList = s.data.toList ++ [97] := by simp
        have eb : (s ++ ⟨#[98]⟩ : ByteArray).data.toList = s.data.toList ++ [98] := by simp
        rw [← ea, ← eb] at hne
        rw [← ea, hN] at hmo
        have ma : (s ++ ⟨#[97]⟩ : ByteArray).size ≤ maxLen := by unfold maxLen; rw [ByteArray.size_append, show (⟨#[97]⟩ : ByteArray).size = 1 from rfl]; omega
        have mb : (s ++ ⟨#[98]⟩ : ByteArray).size ≤ maxLen := by unfold maxLen; rw [ByteArray.size_append, show (⟨#[98]⟩ : ByteArray).size = 1 from rfl]; omega
        have q1 : s.size + (⟨#[97]⟩ : ByteArray).size ≤ 9223372036854775807 := by rw [show (⟨#[97]⟩ : ByteArray).size = 1 from rfl]; omega
        have q2 : s.size + (⟨#[98]⟩ : ByteArray).size ≤ 9223372036854775807 := by rw [show (⟨#[98]⟩ : ByteArray).size = 1 from rfl]; omega
        obtain ⟨X, hX⟩ : ∃ X, dgO (s ++ ⟨#[97]⟩ : ByteArray).data.toList = X := ⟨_, rfl⟩
        obtain ⟨Y, hY⟩ : ∃ Y, dgO (s ++ ⟨#[98]⟩ : ByteArray).data.toList = Y := ⟨_, rfl⟩
        rw [hX, hY] at hne
        rw [hX] at hmo
        have HX := Lib.hid hX
        have HY := Lib.hid hY
        have HM := Lib.hid hmo.symm
        have t2 : (X == Y) = false := by rw [beq_eq_false_iff_ne]; exact hne
        have t4 : (X != Y) = true := by simp [bne, t2]
        have t3 : (X == X) = true := by simp
        clear hN ht hlo h80 hX hY ea eb hmo hne
        go_wp2_with (first | (go_at_call 10; ((with_reducible refine (dgP_of s _ hm).mono ?_); rintro e w' ⟨rfl, rfl⟩; rw [HN.out])) | (go_at_call 11; ((with_reducible refine (dgS_of s _ hm).mono ?_); rintro e w' ⟨rfl, rfl⟩; rw [HN.out])) | (go_at_call 12; ((with_reducible refine (alive_any _).mono ?_); rintro e w' ⟨rfl, rfl⟩)) | (go_at_call 10; ((with_reducible refine (dgP_of (s ++ ⟨#[97]⟩) _ ma).mono ?_); rintro e w' ⟨rfl, rfl⟩; rw [HX.out])) | (go_at_call 10; ((with_reducible refine (dgP_of (s ++ ⟨#[98]⟩) _ mb).mono ?_); rintro e w' ⟨rfl, rfl⟩; rw [HY.out])) | (go_at_call 13; ((with_reducible refine (dgP_more N 97 _).mono ?_); rintro e w' ⟨rfl, rfl⟩; rw [HM.out])))
        go_ret
        exact ⟨rfl, hb⟩

/-! ### THE ROW's STEP: WRITTEN OUT: LEAVE IT -/
set_option maxRecDepth 100000 in
theorem lifted (os : Os) (started : os.Started) (H : Type) (enc : TypeId × Value → H) :
    ReturnsInHanded {} Try.checked os 3 .any (Rows.fnDigestOfSpec.pre6 enc Try.prog Try.f3 Rows.fnDigestOfRow.domain false) (Rows.fnDigestOfSpec.post enc Try.prog Try.f3 false true false false) := by
  refine returnsInHanded_of_change (C := Try.checked) own started (by kernel_rfl) Try.func3
    (ChangeSpec.witness6 (enc := enc) (C := Try.checked) false ⟨#[], #[.slice none 0 0], []⟩ 8 (by kernel_rfl) (by kernel_rfl) (by kernel_rfl) (by kernel_rfl)) ?_
  intro W base args ds gs before hval0 hW hcnd _
  have hval : ∀ (j : Nat) t v, Try.f3.params[j]? = some t → args[j]? = some v → Value.okWide Try.prog W .any base t v := hval0
  have hW' := hW
  obtain ⟨p, q, hA0, hV, rfl, hfz, hnd⟩ := hW
  have hA : DataW.TrodAll enc Try.prog W 0 (fun _ => true) true Try.f3.params.toList args.toList ds p := hA0
  rw [Try.params3] at hA hval
  obtain ⟨v0, vs0, d0, ds0, p0, q0, hargs, rfl, rfl, h0, r0⟩ := trodAll_cons hA
  obtain ⟨rfl, rfl, rfl⟩ := trodAll_nil r0
  obtain rfl : args = #[v0] := by cases args; simp_all
  obtain ⟨rfl, rfl⟩ := trodVars_none hV
  obtain ⟨a0, len0, cap0, rfl⟩ := okWide_slice Try.underlying22 (hval 0 22 v0 rfl rfl)
  have k0 := h0
  have lt0 : ∀ x ∈ p0, x.block < W.heap.size := by obtain ⟨m, hm⟩ := k0; exact DataW.trod_lt m _ _ _ hm
  obtain ⟨z0, w0⟩ : ∃ zs, IsRow .u8 W a0 len0 cap0 zs := by
    obtain ⟨fuel, hf⟩ := h0
    rcases open_ints Try.underlying22 Try.underlying5 (by kernel_rfl) hf with ⟨hcs, _⟩ | ⟨x, l, c, zs, hcs, _, hl, hm, hz, _, hcell, hwz⟩
    · simp [Value.cells] at hcs
      obtain ⟨rfl, rfl, rfl⟩ := hcs
      exact ⟨[], .inl ⟨rfl, rfl, rfl, rfl⟩⟩
    · simp [Value.cells] at hcs
      obtain ⟨rfl, rfl, rfl⟩ := hcs
      exact ⟨zs, .inr ⟨_, rfl, hl, hm, by simpa using hz, hcell, hwz⟩⟩
  clear hA0 hval0
  refine (walk a0 len0 cap0 z0 W w0).mono fun e W' ⟨he, bel⟩ => ?_
  subst he
  exact ⟨_, rfl, _, _, _, [], _, [], hW', trodAll_mk1 (shut_bool Try.underlying4 _), (trodAll_cons_mk (Below.trod laidOut (by kernel_rfl) (of_decide_eq_true (by kernel_rfl)) k0 bel lt0) trodAll_mk0), rfl, bel.frame _, fun h => by cases h⟩

theorem over : Rows.fnDigestOfRow.holds Try.pinned (OpenSpec.ofChange Rows.fnDigestOfSpec) :=
  OpenClaim.holds_of_wide 3 Try.f3 rfl rfl rfl rfl rfl rfl rfl ⟨rfl, rfl, rfl, rfl, rfl⟩ rfl rfl rfl rfl rfl (by kernel_rfl) Try.func3 (by kernel_rfl)
    (of_decide_eq_true (by kernel_rfl)) (by unfold Func.isWrapper; first | (rw [if_pos (by decide +kernel)]; kernel_rfl) | (rw [if_neg (by decide +kernel)]; exact ⟨rfl, rfl⟩))
    (fun os started H enc _ => lifted os started H enc)

/-- ████ THE STATEMENT ████ -/
theorem proved : Rows.FnDigestOfSaid := over
#print axioms proved
end Go.Proofs.Ytfihfnajgkmhhaa.fnDigestOf
