/-
  'FnNameFor' answers true at every input, and each argument reads behind the call as before. Conditions: none.
  The frame is the kit's shell (proof-skeleton.mjs); the walk is the verifier's.
-/
import Derived.Test.YtacapigdfabiiaaRows
import Derived.Test.YtacapigdfabiiaaActI
import Derived.Test.YtacapigdfabiiaaHE
import Derived.Test.YtacapigdfabiiaaGc
import Derived.Lib.Hide
import Derived.Outline
import Derived.BigQuiet
import Derived.Deep.QuietTactic
import Derived.Deep.Draws
import Derived.Laws.OwnMore
import Derived.Laws.Rows
import Derived.WalkSpells
import Derived.Deep.RegionWith
import Derived.WalkKit
import Derived.ProofKit
import Derived.OpenShut
import Derived.ShutString
import Derived.ChangeOld
import Derived.Below
namespace Go.Proofs.Ytacapigdfabiiaa.fnNameFor
open Go.ChangeShapes Go.WideShapes Go.ChangeAt Go.RowKit
open Go.ChangeMaps (open_string shut_string)
set_option linter.unusedVariables false

theorem own : ownKnob Try.prog.godebug = none := by kernel_rfl
theorem laidOut : laidOutB Try.prog = true := by kernel_rfl

/-- WHAT THE WALK IS TOLD OF A SLICE OF INTEGERS THAT CAME IN: it is nil; or it leads to a row of 'cap' cells, the numbers 'zs' (the first 'len' are its elements, the rest its spare room), each fitting its kind. -/
def IsRow (k : IntKind) (w : World) (a : Option Addr) (len cap : Nat) (zs : List Int) : Prop :=
  (a = none ∧ len = 0 ∧ cap = 0 ∧ zs = []) ∨
  ∃ x, a = some x ∧ len ≤ cap ∧ cap ≤ maxLen ∧ zs.length = cap ∧ (∀ i, i < zs.length → w.cell? (x.add i) = some (.int k (zs.getD i 0))) ∧ ∀ n ∈ zs, (Lit.int k n).wf = true

/-! ### STEP 1: THE WALK: the Go text returns true, AND WRITES NOTHING THAT WAS THERE: 'Below w.heap.size w w'' (Derived/Below.lean: '.refl', '.alloc', '.drew', '.setCell' at a new block, '.trans'). Open each 'IsRow' by 'rcases' AHEAD of 'go_enter'; part every test ahead of the walk. -/
set_option maxRecDepth 100000 in
set_option maxHeartbeats 4000000 in
theorem walk (a0 : Option Addr) (len0 cap0 : Nat) (z0 : List Int) (w : World) (w0 : IsRow .u8 w a0 len0 cap0 z0) :
    Calls Try.prog 8 #[.slice a0 len0 cap0] w fun e w' => e = .returned (.bool true) ∧ Below w.heap.size w w' := by
  have hcode := codeArg_of w0
  have hcap := hcode.1
  have hcap2 := hcode.2.1
  unfold maxLen at hcap2
  clear w0
  by_cases hbig : 1048576 < len0
  · go_enter Try.func8, Try.ntmps8
    go_wp2
    go_ret
    exact ⟨rfl, Below.refl _ _⟩
  · go_enter Try.func8, Try.ntmps8
    go_wp2_with fail
    refine (drawNF_any w a0 len0 cap0 hcode).mono ?_
    rintro e w2 ⟨v, L, nk, rfl, h7, hnk, hsh, hown, hb2⟩
    have hfit := fitAcs_sh hsh
    have hrd2 := Lib.hid (OwnG.rd hown)
    have hb2 := Lib.hid hb2
    have hnk2 : nk.size ≤ 100000000 := by omega
    have hlaw := Lib.hid (fun h => nfA_law (L := L) (w := nk) h)
    have hsz := nfA_size L nk
    have hr0 := Lib.hid (acN_range L nk)
    clear hsh hown
    obtain ⟨s, hs⟩ : ∃ s, nfA L nk = s := ⟨_, rfl⟩
    have HS := Lib.hid hs
    rw [hs] at hlaw hsz
    have q0 := str_same (a := s) (b := s) rfl
    clear hs
    go_wp2_with fail
    refine (acI_for v L nk _ hrd2.out hfit hnk2).mono ?_
    rintro e w3 ⟨rfl, hb3⟩
    rw [HS.out]
    have hrd3 := Lib.hid (hrd2.out.below hb3)
    have hb3 := Lib.hid (below_trans' hb2.out hb3)
    go_wp2_with fail
    refine (acS_for v L nk _ hrd3.out hfit hnk2).mono ?_
    rintro e w4 ⟨rfl, hb4⟩
    rw [HS.out]
    have hrd4 := Lib.hid (hrd3.out.below hb4)
    have hb4 := Lib.hid (below_trans' hb3.out hb4)
    by_cases h0 : s.size = 0
    · have z0 := str_nil h0
      go_wp2_with (go_at_call 17; refine (alive_any _).mono ?_; rintro e w' ⟨rfl, rfl⟩)
      go_ret
      exact ⟨rfl, hb4.out⟩
    · have z0 := str_ne h0
      have z1 := str_full h0
      obtain ⟨hw, hn, hor⟩ := hlaw.out h0
      have HW := Lib.hid hw
      have HN := Lib.hid hn
      have hm : s.size ≤ maxLen := by unfold maxLen; omega
      clear hw hn
      obtain ⟨z, hz⟩ : ∃ z, acN L nk = z := ⟨_, rfl⟩
      have HZ := Lib.hid hz
      rw [hz] at hor
      clear hz
      go_wp2_with (first | (go_at_call 34; refine (word_any s _ hm).mono ?_; rintro e w' ⟨rfl, rfl⟩; rw [HW.out]) | fail)
      refine (acI_named _ L s _ hrd4.out hfit).mono ?_
      rintro e w5 ⟨rfl, hb5⟩
      rw [HN.out]
      have hrd5 := Lib.hid (hrd4.out.below hb5)
      have hb5 := Lib.hid (below_trans' hb4.out hb5)
      go_wp2_with fail
      refine (acI_named _ L nk _ hrd5.out hfit).mono ?_
      rintro e w6 ⟨rfl, hb6⟩
      rw [HZ.out]
      have hb6 := Lib.hid (below_trans' hb5.out hb6)
      by_cases hz0 : 0 ≤ z
      · have t0 : decide (0 ≤ z) = true := decide_eq_true hz0
        go_wp2
        go_ret
        exact ⟨rfl, hb6.out⟩
      · have t0 : decide (0 ≤ z) = false := decide_eq_false hz0
        obtain rfl : s = nk := by
          rcases hor with h | h
          · exact absurd h hz0
          · exact h
        go_wp2
        go_ret
        exact ⟨rfl, hb6.out⟩

/-! ### THE ROW's STEP: WRITTEN OUT: LEAVE IT -/
set_option maxRecDepth 100000 in
theorem lifted (os : Os) (started : os.Started) (H : Type) (enc : TypeId × Value → H) :
    ReturnsInHanded {} Try.checked os 8 .any (Rows.fnNameForSpec.pre6 enc Try.prog Try.f8 Rows.fnNameForRow.domain false) (Rows.fnNameForSpec.post enc Try.prog Try.f8 false true false false) := by
  refine returnsInHanded_of_change (C := Try.checked) own started (by kernel_rfl) Try.func8
    (ChangeSpec.witness6 (enc := enc) (C := Try.checked) false ⟨#[], #[.slice none 0 0], []⟩ 8 (by kernel_rfl) (by kernel_rfl) (by kernel_rfl) (by kernel_rfl)) ?_
  intro W base args ds gs before hval0 hW hcnd _
  have hval : ∀ (j : Nat) t v, Try.f8.params[j]? = some t → args[j]? = some v → Value.okWide Try.prog W .any base t v := hval0
  have hW' := hW
  obtain ⟨p, q, hA0, hV, rfl, hfz, hnd⟩ := hW
  have hA : DataW.TrodAll enc Try.prog W 0 (fun _ => true) true Try.f8.params.toList args.toList ds p := hA0
  rw [Try.params8] at hA hval
  obtain ⟨v0, vs0, d0, ds0, p0, q0, hargs, rfl, rfl, h0, r0⟩ := trodAll_cons hA
  obtain ⟨rfl, rfl, rfl⟩ := trodAll_nil r0
  obtain rfl : args = #[v0] := by cases args; simp_all
  obtain ⟨rfl, rfl⟩ := trodVars_none hV
  obtain ⟨a0, len0, cap0, rfl⟩ := okWide_slice Try.underlying22 (hval 0 22 v0 rfl rfl)
  have k0 := h0
  have lt0 : ∀ x ∈ p0, x.block < W.heap.size := by obtain ⟨m, hm⟩ := k0; exact DataW.trod_lt m _ _ _ hm
  obtain ⟨z0, w0⟩ : ∃ zs, IsRow .u8 W a0 len0 cap0 zs := by
    obtain ⟨fuel, hf⟩ := h0
    rcases open_ints Try.underlying22 Try.underlying5 (by kernel_rfl) hf with ⟨hcs, _⟩ | ⟨x, l, c, zs, hcs, _, hl, hm, hz, _, hcell, hwz⟩
    · simp [Value.cells] at hcs
      obtain ⟨rfl, rfl, rfl⟩ := hcs
      exact ⟨[], .inl ⟨rfl, rfl, rfl, rfl⟩⟩
    · simp [Value.cells] at hcs
      obtain ⟨rfl, rfl, rfl⟩ := hcs
      exact ⟨zs, .inr ⟨_, rfl, hl, hm, by simpa using hz, hcell, hwz⟩⟩
  clear hA0 hval0
  refine (walk a0 len0 cap0 z0 W w0).mono fun e W' ⟨he, bel⟩ => ?_
  subst he
  exact ⟨_, rfl, _, _, _, [], _, [], hW', trodAll_mk1 (shut_bool Try.underlying4 _), (trodAll_cons_mk (Below.trod laidOut (by kernel_rfl) (of_decide_eq_true (by kernel_rfl)) k0 bel lt0) trodAll_mk0), rfl, bel.frame _, fun h => by cases h⟩

theorem over : Rows.fnNameForRow.holds Try.pinned (OpenSpec.ofChange Rows.fnNameForSpec) :=
  OpenClaim.holds_of_wide 8 Try.f8 rfl rfl rfl rfl rfl rfl rfl ⟨rfl, rfl, rfl, rfl, rfl⟩ rfl rfl rfl rfl rfl (by kernel_rfl) Try.func8 (by kernel_rfl)
    (of_decide_eq_true (by kernel_rfl)) (by unfold Func.isWrapper; first | (rw [if_pos (by decide +kernel)]; kernel_rfl) | (rw [if_neg (by decide +kernel)]; exact ⟨rfl, rfl⟩))
    (fun os started H enc _ => lifted os started H enc)

/-- ████ THE STATEMENT ████ -/
theorem proved : Rows.FnNameForSaid := over
#print axioms proved
end Go.Proofs.Ytacapigdfabiiaa.fnNameFor
