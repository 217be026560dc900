/-
  'FnTextValid' answers true at every input, and each argument reads behind the call as before. Conditions: none.
  The frame is the kit's shell (proof-skeleton.mjs); the walk is the verifier's.
-/
import Derived.Test.YtiacpbahjfellaaRows
import Derived.Test.YtiacpbahjfellaaGc
import Derived.Test.YtiacpbahjfellaaGh
import Derived.Lib.Hide
import Derived.Outline
import Derived.BigQuiet
import Derived.Deep.QuietTactic
import Derived.Deep.Draws
import Derived.Laws.OwnMore
import Derived.Laws.Rows
import Derived.WalkSpells
import Derived.Deep.RegionWith
import Derived.WalkKit
import Derived.ProofKit
import Derived.OpenShut
import Derived.ShutString
import Derived.ChangeOld
import Derived.Below
namespace Go.Proofs.Ytiacpbahjfellaa.fnTextValid
open Go.ChangeShapes Go.WideShapes Go.ChangeAt Go.RowKit
open Go.ChangeMaps (open_string shut_string)
set_option linter.unusedVariables false

theorem own : ownKnob Try.prog.godebug = none := by kernel_rfl
theorem laidOut : laidOutB Try.prog = true := by kernel_rfl

/-- WHAT THE WALK IS TOLD OF A SLICE OF INTEGERS THAT CAME IN: it is nil; or it leads to a row of 'cap' cells, the numbers 'zs' (the first 'len' are its elements, the rest its spare room), each fitting its kind. -/
def IsRow (k : IntKind) (w : World) (a : Option Addr) (len cap : Nat) (zs : List Int) : Prop :=
  (a = none ∧ len = 0 ∧ cap = 0 ∧ zs = []) ∨
  ∃ x, a = some x ∧ len ≤ cap ∧ cap ≤ maxLen ∧ zs.length = cap ∧ (∀ i, i < zs.length → w.cell? (x.add i) = some (.int k (zs.getD i 0))) ∧ ∀ n ∈ zs, (Lit.int k n).wf = true

theorem text_line {s : ByteArray} : textB (s ++ ⟨#[10]⟩).data.toList = false := by
  have e : (s ++ ⟨#[10]⟩ : ByteArray).data.toList = s.data.toList ++ [10] := by simp
  rw [e]; unfold textB
  have : (s.data.toList ++ [(10 : UInt8)]).all tcB = false := by rw [List.all_append]; simp; exact fun _ => by decide
  rw [this]; simp
theorem text_half {s : ByteArray} (k : Nat) (h : textB s.data.toList = true) : textB (s.extract 0 k).data.toList = true := by
  have e : (s.extract 0 k).data.toList = s.data.toList.take k := by simp
  rw [e]
  unfold textB at h ⊢
  simp only [Bool.and_eq_true, decide_eq_true_eq] at h ⊢
  refine ⟨by have := List.length_take_le' k s.data.toList; omega, ?_⟩
  rw [List.all_eq_true] at h ⊢
  exact fun x hx => h.2 x (List.mem_of_mem_take hx)
/-! ### STEP 1: THE WALK: the Go text returns true, AND WRITES NOTHING THAT WAS THERE: 'Below w.heap.size w w'' (Derived/Below.lean: '.refl', '.alloc', '.drew', '.setCell' at a new block, '.trans'). Open each 'IsRow' by 'rcases' AHEAD of 'go_enter'; part every test ahead of the walk. -/
set_option maxRecDepth 100000 in
set_option maxHeartbeats 4000000 in
theorem walk (a0 : Option Addr) (len0 cap0 : Nat) (z0 : List Int) (w : World) (w0 : IsRow .u8 w a0 len0 cap0 z0) :
    Calls Try.prog 3 #[.slice a0 len0 cap0] w fun e w' => e = .returned (.bool true) ∧ Below w.heap.size w w' := by
  have hcode := codeArg_of w0
  have hcap := hcode.1
  have hcap2 := hcode.2.1
  unfold maxLen at hcap2
  clear w0
  by_cases hbig : 1048576 < len0
  · go_enter Try.func3, Try.ntmps3
    go_wp2
    go_ret
    exact ⟨rfl, Below.refl _ _⟩
  · go_enter Try.func3, Try.ntmps3
    go_wp2_with (go_at_call 11; refine (drawText_any w a0 len0 cap0 hcode).mono ?_; rintro e w2 ⟨s, hs, rfl, hb⟩)
    have hm : s.size ≤ maxLen := by unfold maxLen; omega
    have hsp : Hid (textB (s ++ ⟨#[10]⟩).data.toList = false) := Lib.hid text_line
    have hm2 : (s ++ ⟨#[10]⟩ : ByteArray).size ≤ maxLen := by unfold maxLen; rw [ByteArray.size_append, show (⟨#[10]⟩ : ByteArray).size = 1 from rfl]; omega
    rcases hok : textB s.data.toList with _ | _
    · have HOK := Lib.hid hok
      clear hok
      go_wp2_with (first | (go_at_call 12; ((with_reducible refine (text_any s _ hm).mono ?_); rintro e w' ⟨rfl, rfl⟩; rw [HOK.out])) | (go_at_call 13; ((with_reducible refine (stext_any s _ hm).mono ?_); rintro e w' ⟨rfl, rfl⟩; rw [HOK.out])) | (go_at_call 12; ((with_reducible refine (text_any (s ++ ⟨#[10]⟩) _ hm2).mono ?_); rintro e w' ⟨rfl, rfl⟩; rw [hsp.out])) | (go_at_call 14; ((with_reducible refine (alive_any _).mono ?_); rintro e w' ⟨rfl, rfl⟩)))
      go_ret
      exact ⟨rfl, hb⟩
    · have H3 := Lib.hid (text_half (s.size / 2) hok)
      have HOK := Lib.hid hok
      clear hok
      have hm3 : (s.extract 0 (s.size / 2)).size ≤ maxLen := by unfold maxLen; rw [ByteArray.size_extract]; omega
      go_wp2_with (first | (go_at_call 12; ((with_reducible refine (text_any s _ hm).mono ?_); rintro e w' ⟨rfl, rfl⟩; rw [HOK.out])) | (go_at_call 13; ((with_reducible refine (stext_any s _ hm).mono ?_); rintro e w' ⟨rfl, rfl⟩; rw [HOK.out])) | (go_at_call 12; ((with_reducible refine (text_any (s ++ ⟨#[10]⟩) _ hm2).mono ?_); rintro e w' ⟨rfl, rfl⟩; rw [hsp.out])) | (go_at_call 12; ((with_reducible refine (text_any (s.extract 0 (s.size / 2)) _ hm3).mono ?_); rintro e w' ⟨rfl, rfl⟩; rw [H3.out])) | (go_at_call 14; ((with_reducible refine (alive_any _).mono ?_); rintro e w' ⟨rfl, rfl⟩)))
      go_ret
      exact ⟨rfl, hb⟩

/-! ### THE ROW's STEP: WRITTEN OUT: LEAVE IT -/
set_option maxRecDepth 100000 in
theorem lifted (os : Os) (started : os.Started) (H : Type) (enc : TypeId × Value → H) :
    ReturnsInHanded {} Try.checked os 3 .any (Rows.fnTextValidSpec.pre6 enc Try.prog Try.f3 Rows.fnTextValidRow.domain false) (Rows.fnTextValidSpec.post enc Try.prog Try.f3 false true false false) := by
  refine returnsInHanded_of_change (C := Try.checked) own started (by kernel_rfl) Try.func3
    (ChangeSpec.witness6 (enc := enc) (C := Try.checked) false ⟨#[], #[.slice none 0 0], []⟩ 8 (by kernel_rfl) (by kernel_rfl) (by kernel_rfl) (by kernel_rfl)) ?_
  intro W base args ds gs before hval0 hW hcnd _
  have hval : ∀ (j : Nat) t v, Try.f3.params[j]? = some t → args[j]? = some v → Value.okWide Try.prog W .any base t v := hval0
  have hW' := hW
  obtain ⟨p, q, hA0, hV, rfl, hfz, hnd⟩ := hW
  have hA : DataW.TrodAll enc Try.prog W 0 (fun _ => true) true Try.f3.params.toList args.toList ds p := hA0
  rw [Try.params3] at hA hval
  obtain ⟨v0, vs0, d0, ds0, p0, q0, hargs, rfl, rfl, h0, r0⟩ := trodAll_cons hA
  obtain ⟨rfl, rfl, rfl⟩ := trodAll_nil r0
  obtain rfl : args = #[v0] := by cases args; simp_all
  obtain ⟨rfl, rfl⟩ := trodVars_none hV
  obtain ⟨a0, len0, cap0, rfl⟩ := okWide_slice Try.underlying22 (hval 0 22 v0 rfl rfl)
  have k0 := h0
  have lt0 : ∀ x ∈ p0, x.block < W.heap.size := by obtain ⟨m, hm⟩ := k0; exact DataW.trod_lt m _ _ _ hm
  obtain ⟨z0, w0⟩ : ∃ zs, IsRow .u8 W a0 len0 cap0 zs := by
    obtain ⟨fuel, hf⟩ := h0
    rcases open_ints Try.underlying22 Try.underlying5 (by kernel_rfl) hf with ⟨hcs, _⟩ | ⟨x, l, c, zs, hcs, _, hl, hm, hz, _, hcell, hwz⟩
    · simp [Value.cells] at hcs
      obtain ⟨rfl, rfl, rfl⟩ := hcs
      exact ⟨[], .inl ⟨rfl, rfl, rfl, rfl⟩⟩
    · simp [Value.cells] at hcs
      obtain ⟨rfl, rfl, rfl⟩ := hcs
      exact ⟨zs, .inr ⟨_, rfl, hl, hm, by simpa using hz, hcell, hwz⟩⟩
  clear hA0 hval0
  refine (walk a0 len0 cap0 z0 W w0).mono fun e W' ⟨he, bel⟩ => ?_
  subst he
  exact ⟨_, rfl, _, _, _, [], _, [], hW', trodAll_mk1 (shut_bool Try.underlying4 _), (trodAll_cons_mk (Below.trod laidOut (by kernel_rfl) (of_decide_eq_true (by kernel_rfl)) k0 bel lt0) trodAll_mk0), rfl, bel.frame _, fun h => by cases h⟩

theorem over : Rows.fnTextValidRow.holds Try.pinned (OpenSpec.ofChange Rows.fnTextValidSpec) :=
  OpenClaim.holds_of_wide 3 Try.f3 rfl rfl rfl rfl rfl rfl rfl ⟨rfl, rfl, rfl, rfl, rfl⟩ rfl rfl rfl rfl rfl (by kernel_rfl) Try.func3 (by kernel_rfl)
    (of_decide_eq_true (by kernel_rfl)) (by unfold Func.isWrapper; first | (rw [if_pos (by decide +kernel)]; kernel_rfl) | (rw [if_neg (by decide +kernel)]; exact ⟨rfl, rfl⟩))
    (fun os started H enc _ => lifted os started H enc)

/-- ████ THE STATEMENT ████ -/
theorem proved : Rows.FnTextValidSaid := over
#print axioms proved
end Go.Proofs.Ytiacpbahjfellaa.fnTextValid
