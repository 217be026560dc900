/-
  'FnUnescapeText' answers true at every input, and each argument reads behind the call as before. Conditions: none.
  The frame is the kit's shell (proof-skeleton.mjs); the walk is the verifier's.
-/
import Derived.Test.YtiacpbahjfellaaRows
import Derived.Test.YtiacpbahjfellaaGc
import Derived.Test.YtiacpbahjfellaaGd
import Derived.Test.YtiacpbahjfellaaDUnesc
import Derived.Lib.Hide
import Derived.Outline
import Derived.BigQuiet
import Derived.Deep.QuietTactic
import Derived.Deep.Draws
import Derived.Laws.OwnMore
import Derived.Laws.Rows
import Derived.WalkSpells
import Derived.Deep.RegionWith
import Derived.WalkKit
import Derived.ProofKit
import Derived.OpenShut
import Derived.ShutString
import Derived.ChangeOld
import Derived.Below
namespace Go.Proofs.Ytiacpbahjfellaa.fnUnescapeText
open Go.ChangeShapes Go.WideShapes Go.ChangeAt Go.RowKit
open Go.ChangeMaps (open_string shut_string)
set_option linter.unusedVariables false

theorem own : ownKnob Try.prog.godebug = none := by kernel_rfl
theorem laidOut : laidOutB Try.prog = true := by kernel_rfl

/-- WHAT THE WALK IS TOLD OF A SLICE OF INTEGERS THAT CAME IN: it is nil; or it leads to a row of 'cap' cells, the numbers 'zs' (the first 'len' are its elements, the rest its spare room), each fitting its kind. -/
def IsRow (k : IntKind) (w : World) (a : Option Addr) (len cap : Nat) (zs : List Int) : Prop :=
  (a = none ∧ len = 0 ∧ cap = 0 ∧ zs = []) ∨
  ∃ x, a = some x ∧ len ≤ cap ∧ cap ≤ maxLen ∧ zs.length = cap ∧ (∀ i, i < zs.length → w.cell? (x.add i) = some (.int k (zs.getD i 0))) ∧ ∀ n ∈ zs, (Lit.int k n).wf = true

/-! ### STEP 1: THE WALK: the Go text returns true, AND WRITES NOTHING THAT WAS THERE: 'Below w.heap.size w w'' (Derived/Below.lean: '.refl', '.alloc', '.drew', '.setCell' at a new block, '.trans'). Open each 'IsRow' by 'rcases' AHEAD of 'go_enter'; part every test ahead of the walk. -/
set_option maxRecDepth 100000 in
set_option maxHeartbeats 4000000 in
theorem walk (a0 : Option Addr) (len0 cap0 : Nat) (z0 : List Int) (w : World) (w0 : IsRow .u8 w a0 len0 cap0 z0) :
    Calls Try.prog 5 #[.slice a0 len0 cap0] w fun e w' => e = .returned (.bool true) ∧ Below w.heap.size w w' := by
  have hcode := codeArg_of w0
  have hcap := hcode.1
  have hcap2 := hcode.2.1
  unfold maxLen at hcap2
  clear w0
  by_cases hbig : 1048576 < len0
  · go_enter Try.func5, Try.ntmps5
    go_wp2
    go_ret
    exact ⟨rfl, Below.refl _ _⟩
  · go_enter Try.func5, Try.ntmps5
    go_wp2_with (go_at_call 19; refine (drawUnesc_any w a0 len0 cap0 hcode).mono ?_; rintro e w2 ⟨s, hs, rfl, hb⟩)
    have hm : s.size ≤ maxLen := by unfold maxLen; omega
    have hm2 : s.size ≤ 100000000 := by omega
    have hb := Lib.hid hb
    rcases unT_or s.data.toList with ⟨t, ht, he, hu⟩ | ⟨_, hu⟩
    · have HU := Lib.hid hu
      have htm : (bs t).size ≤ maxLen := by rw [bs_size]; have := textB_len ht; unfold maxLen; omega
      have HE : Hid (bs (escT (bs t).data.toList) = s) := Lib.hid (by rw [bs_data, escT_in ht, he]; rfl)
      have z1 : (⟨#[38]⟩ : ByteArray).size = 1 := rfl
      have s1 : s.size + (⟨#[38]⟩ : ByteArray).size ≤ 9223372036854775807 := by omega
      have hm3 : (s ++ ⟨#[38]⟩ : ByteArray).size ≤ maxLen := by unfold maxLen; rw [ByteArray.size_append]; omega
      have HZ : Hid (unT (s ++ ⟨#[38]⟩ : ByteArray).data.toList = ([], false)) := Lib.hid (by
        have e1 : (s ++ ⟨#[38]⟩ : ByteArray).data.toList = escL t ++ [38] := by rw [he]; simp
        rw [e1]; exact unT_amp t)
      have q := str_same (a := s) (b := s) rfl
      have q2 := str_same (a := bs t) (b := bs t) rfl
      clear hu ht he z1
      go_wp2_with (first | (go_at_call 18; ((with_reducible refine (unI_any s _ hm).mono ?_); rintro e w3 ⟨rfl, hb3⟩; rw [HU.out]; have hb3 := Lib.hid (below_trans hb.out hb3))) | (go_at_call 20; refine (unS_any s _ hm2).mono ?_; rintro e w4 ⟨rfl, hb4⟩; rw [HU.out]; have hb4 := Lib.hid (below_trans hb3.out hb4)) | (go_at_call 18; ((with_reducible refine (unI_any (s ++ ⟨#[38]⟩) _ hm3).mono ?_); rintro e w5 ⟨rfl, hb5⟩; rw [HZ.out]; have hb5 := Lib.hid (below_trans hb4.out hb5))) | (go_at_call 16; refine (escI_any _ _ htm).mono ?_; rintro e w6 ⟨rfl, hb6⟩; rw [HE.out]; have hb6 := Lib.hid (below_trans hb5.out hb6)))
      go_ret
      exact ⟨rfl, hb6.out⟩
    · have HU := Lib.hid hu
      have z : (bs []).toList = [] := str_nil rfl
      clear hu
      go_wp2_with (first | (go_at_call 18; refine (unI_any s _ hm).mono ?_; rintro e w3 ⟨rfl, hb3⟩; rw [HU.out]; have hb3 := Lib.hid (below_trans hb.out hb3)) | (go_at_call 20; refine (unS_any s _ hm2).mono ?_; rintro e w4 ⟨rfl, hb4⟩; rw [HU.out]; have hb4 := Lib.hid (below_trans hb3.out hb4)) | (go_at_call 14; refine (alive_any _).mono ?_; rintro e w' ⟨rfl, rfl⟩))
      go_ret
      exact ⟨rfl, hb4.out⟩

/-! ### THE ROW's STEP: WRITTEN OUT: LEAVE IT -/
set_option maxRecDepth 100000 in
theorem lifted (os : Os) (started : os.Started) (H : Type) (enc : TypeId × Value → H) :
    ReturnsInHanded {} Try.checked os 5 .any (Rows.fnUnescapeTextSpec.pre6 enc Try.prog Try.f5 Rows.fnUnescapeTextRow.domain false) (Rows.fnUnescapeTextSpec.post enc Try.prog Try.f5 false true false false) := by
  refine returnsInHanded_of_change (C := Try.checked) own started (by kernel_rfl) Try.func5
    (ChangeSpec.witness6 (enc := enc) (C := Try.checked) false ⟨#[], #[.slice none 0 0], []⟩ 8 (by kernel_rfl) (by kernel_rfl) (by kernel_rfl) (by kernel_rfl)) ?_
  intro W base args ds gs before hval0 hW hcnd _
  have hval : ∀ (j : Nat) t v, Try.f5.params[j]? = some t → args[j]? = some v → Value.okWide Try.prog W .any base t v := hval0
  have hW' := hW
  obtain ⟨p, q, hA0, hV, rfl, hfz, hnd⟩ := hW
  have hA : DataW.TrodAll enc Try.prog W 0 (fun _ => true) true Try.f5.params.toList args.toList ds p := hA0
  rw [Try.params5] at hA hval
  obtain ⟨v0, vs0, d0, ds0, p0, q0, hargs, rfl, rfl, h0, r0⟩ := trodAll_cons hA
  obtain ⟨rfl, rfl, rfl⟩ := trodAll_nil r0
  obtain rfl : args = #[v0] := by cases args; simp_all
  obtain ⟨rfl, rfl⟩ := trodVars_none hV
  obtain ⟨a0, len0, cap0, rfl⟩ := okWide_slice Try.underlying22 (hval 0 22 v0 rfl rfl)
  have k0 := h0
  have lt0 : ∀ x ∈ p0, x.block < W.heap.size := by obtain ⟨m, hm⟩ := k0; exact DataW.trod_lt m _ _ _ hm
  obtain ⟨z0, w0⟩ : ∃ zs, IsRow .u8 W a0 len0 cap0 zs := by
    obtain ⟨fuel, hf⟩ := h0
    rcases open_ints Try.underlying22 Try.underlying5 (by kernel_rfl) hf with ⟨hcs, _⟩ | ⟨x, l, c, zs, hcs, _, hl, hm, hz, _, hcell, hwz⟩
    · simp [Value.cells] at hcs
      obtain ⟨rfl, rfl, rfl⟩ := hcs
      exact ⟨[], .inl ⟨rfl, rfl, rfl, rfl⟩⟩
    · simp [Value.cells] at hcs
      obtain ⟨rfl, rfl, rfl⟩ := hcs
      exact ⟨zs, .inr ⟨_, rfl, hl, hm, by simpa using hz, hcell, hwz⟩⟩
  clear hA0 hval0
  refine (walk a0 len0 cap0 z0 W w0).mono fun e W' ⟨he, bel⟩ => ?_
  subst he
  exact ⟨_, rfl, _, _, _, [], _, [], hW', trodAll_mk1 (shut_bool Try.underlying4 _), (trodAll_cons_mk (Below.trod laidOut (by kernel_rfl) (of_decide_eq_true (by kernel_rfl)) k0 bel lt0) trodAll_mk0), rfl, bel.frame _, fun h => by cases h⟩

theorem over : Rows.fnUnescapeTextRow.holds Try.pinned (OpenSpec.ofChange Rows.fnUnescapeTextSpec) :=
  OpenClaim.holds_of_wide 5 Try.f5 rfl rfl rfl rfl rfl rfl rfl ⟨rfl, rfl, rfl, rfl, rfl⟩ rfl rfl rfl rfl rfl (by kernel_rfl) Try.func5 (by kernel_rfl)
    (of_decide_eq_true (by kernel_rfl)) (by unfold Func.isWrapper; first | (rw [if_pos (by decide +kernel)]; kernel_rfl) | (rw [if_neg (by decide +kernel)]; exact ⟨rfl, rfl⟩))
    (fun os started H enc _ => lifted os started H enc)

/-- ████ THE STATEMENT ████ -/
theorem proved : Rows.FnUnescapeTextSaid := over
#print axioms proved
end Go.Proofs.Ytiacpbahjfellaa.fnUnescapeText
