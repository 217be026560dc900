/-
  'FnElementsText' answers true at every input, and each argument reads behind the call as before. Conditions: none.
  The frame is the kit's shell (proof-skeleton.mjs); the walk is the verifier's.
-/
import Derived.Test.YtjdllminjpppbaaRows
import Derived.Test.YtjdllminjpppbaaGm
import Derived.Test.YtjdllminjpppbaaGl
import Derived.Test.YtjdllminjpppbaaGi
import Derived.Test.YtjdllminjpppbaaGj
import Derived.Test.YtjdllminjpppbaaGc
import Derived.Lib.Hide
import Derived.Outline
import Derived.BigQuiet
import Derived.Deep.QuietTactic
import Derived.Deep.Draws
import Derived.Laws.OwnMore
import Derived.Laws.Rows
import Derived.WalkSpells
import Derived.Deep.RegionWith
import Derived.WalkKit
import Derived.ProofKit
import Derived.OpenShut
import Derived.ShutString
import Derived.ChangeOld
import Derived.Below
namespace Go.Proofs.Ytjdllminjpppbaa.fnElementsText
open Go.ChangeShapes Go.WideShapes Go.ChangeAt Go.RowKit
open Go.ChangeMaps (open_string shut_string)
set_option linter.unusedVariables false

theorem own : ownKnob Try.prog.godebug = none := by kernel_rfl
theorem laidOut : laidOutB Try.prog = true := by kernel_rfl

/-- WHAT THE WALK IS TOLD OF A SLICE OF INTEGERS THAT CAME IN: it is nil; or it leads to a row of 'cap' cells, the numbers 'zs' (the first 'len' are its elements, the rest its spare room), each fitting its kind. -/
def IsRow (k : IntKind) (w : World) (a : Option Addr) (len cap : Nat) (zs : List Int) : Prop :=
  (a = none ∧ len = 0 ∧ cap = 0 ∧ zs = []) ∨
  ∃ x, a = some x ∧ len ≤ cap ∧ cap ≤ maxLen ∧ zs.length = cap ∧ (∀ i, i < zs.length → w.cell? (x.add i) = some (.int k (zs.getD i 0))) ∧ ∀ n ∈ zs, (Lit.int k n).wf = true

/-! ### STEP 1: THE WALK: the Go text returns true, AND WRITES NOTHING THAT WAS THERE: 'Below w.heap.size w w'' (Derived/Below.lean: '.refl', '.alloc', '.drew', '.setCell' at a new block, '.trans'). Open each 'IsRow' by 'rcases' AHEAD of 'go_enter'; part every test ahead of the walk. -/
set_option maxRecDepth 100000 in
set_option maxHeartbeats 4000000 in
theorem walk (a0 : Option Addr) (len0 cap0 : Nat) (z0 : List Int) (w : World) (w0 : IsRow .u8 w a0 len0 cap0 z0) :
    Calls Try.prog 4 #[.slice a0 len0 cap0] w fun e w' => e = .returned (.bool true) ∧ Below w.heap.size w w' := by
  have hcode := codeArg_of w0
  have hcap := hcode.1
  have hcap2 := hcode.2.1
  unfold maxLen at hcap2
  clear w0
  by_cases hbig : 1048576 < len0
  · go_enter Try.func4, Try.ntmps4
    go_wp2
    go_ret
    exact ⟨rfl, Below.refl _ _⟩
  · go_enter Try.func4, Try.ntmps4
    go_wp2_with (go_at_call 15; refine (drawElT_any w a0 len0 cap0 hcode).mono ?_; rintro e w2 ⟨v, L, rfl, h9, hsh, hown, hb⟩)
    have hfit := fit_short hsh
    have hb2 := Lib.hid hb
    have hrd2 := OwnG.rd hown
    clear hb hsh hown
    go_wp2_with fail
    refine (elI_text v L _ hrd2 hfit).mono ?_
    rintro e w3 ⟨rfl, hb3⟩
    have hrd3 := hrd2.below hb3
    have hb3 := Lib.hid (below_trans hb2.out hb3)
    have q := str_same (a := bs (elT L)) (b := bs (elT L)) rfl
    go_wp2_with fail
    refine (elS_text v L _ hrd3 hfit).mono ?_
    rintro e w4 ⟨rfl, mm, rfl⟩
    have hrd4 := hrd3.below (below_drewN w3 mm)
    have hb4 := Lib.hid (below_trans' hb3.out (below_drewN w3 mm))
    obtain ⟨w4, hw4⟩ : ∃ w4, w3.drewN mm = w4 := ⟨_, rfl⟩
    rw [hw4] at hrd4 hb4 ⊢
    clear hw4
    go_wp2_with fail
    refine (elS_valid v L _ hrd4 hfit).mono ?_
    rintro e w5 ⟨rfl, rfl⟩
    rcases hB : elB L with _ | _
    · have HE : Hid (bs (elT L) = bs []) := Lib.hid (by rw [elT_out hB])
      have z : (bs []).toList = [] := str_nil rfl
      rw [HE.out]
      clear hB
      go_wp2_with (go_at_call 14; refine (alive_any _).mono ?_; rintro e w' ⟨rfl, rfl⟩)
      go_ret
      exact ⟨rfl, hb4.out⟩
    · have HR : Hid (RdE (bs (elT L)).data.toList L true) := Lib.hid (.inl ⟨rfl, hB, by rw [bs_data, elT_in hB]⟩)
      have hsz : (bs (elT L)).size ≤ 90000000 := by rw [bs_size]; have := elT_len L; omega
      clear hB
      go_wp2_with fail
      refine (rdI_elems _ _ hsz).mono ?_
      rintro e w6 ⟨v6, L6, ok6, rfl, hR6, hown6, hb6⟩
      obtain ⟨rfl, rfl⟩ := rdE_one hR6 HR.out
      have hrd6 := OwnG.rd hown6
      have hrdL := hrd4.below hb6
      have hb6 := Lib.hid (below_trans' hb4.out hb6)
      clear hown6 hR6
      go_wp2_with fail
      refine (sameE_any v6 v _ _ hrd6 hrdL).mono ?_
      rintro e w7 ⟨rfl, m7, rfl⟩
      have hb7 := Lib.hid (below_trans' hb6.out (below_drewN w6 m7))
      go_wp2
      go_ret
      exact ⟨rfl, hb7.out⟩

/-! ### THE ROW's STEP: WRITTEN OUT: LEAVE IT -/
set_option maxRecDepth 100000 in
theorem lifted (os : Os) (started : os.Started) (H : Type) (enc : TypeId × Value → H) :
    ReturnsInHanded {} Try.checked os 4 .any (Rows.fnElementsTextSpec.pre6 enc Try.prog Try.f4 Rows.fnElementsTextRow.domain false) (Rows.fnElementsTextSpec.post enc Try.prog Try.f4 false true false false) := by
  refine returnsInHanded_of_change (C := Try.checked) own started (by kernel_rfl) Try.func4
    (ChangeSpec.witness6 (enc := enc) (C := Try.checked) false ⟨#[], #[.slice none 0 0], []⟩ 8 (by kernel_rfl) (by kernel_rfl) (by kernel_rfl) (by kernel_rfl)) ?_
  intro W base args ds gs before hval0 hW hcnd _
  have hval : ∀ (j : Nat) t v, Try.f4.params[j]? = some t → args[j]? = some v → Value.okWide Try.prog W .any base t v := hval0
  have hW' := hW
  obtain ⟨p, q, hA0, hV, rfl, hfz, hnd⟩ := hW
  have hA : DataW.TrodAll enc Try.prog W 0 (fun _ => true) true Try.f4.params.toList args.toList ds p := hA0
  rw [Try.params4] at hA hval
  obtain ⟨v0, vs0, d0, ds0, p0, q0, hargs, rfl, rfl, h0, r0⟩ := trodAll_cons hA
  obtain ⟨rfl, rfl, rfl⟩ := trodAll_nil r0
  obtain rfl : args = #[v0] := by cases args; simp_all
  obtain ⟨rfl, rfl⟩ := trodVars_none hV
  obtain ⟨a0, len0, cap0, rfl⟩ := okWide_slice Try.underlying22 (hval 0 22 v0 rfl rfl)
  have k0 := h0
  have lt0 : ∀ x ∈ p0, x.block < W.heap.size := by obtain ⟨m, hm⟩ := k0; exact DataW.trod_lt m _ _ _ hm
  obtain ⟨z0, w0⟩ : ∃ zs, IsRow .u8 W a0 len0 cap0 zs := by
    obtain ⟨fuel, hf⟩ := h0
    rcases open_ints Try.underlying22 Try.underlying5 (by kernel_rfl) hf with ⟨hcs, _⟩ | ⟨x, l, c, zs, hcs, _, hl, hm, hz, _, hcell, hwz⟩
    · simp [Value.cells] at hcs
      obtain ⟨rfl, rfl, rfl⟩ := hcs
      exact ⟨[], .inl ⟨rfl, rfl, rfl, rfl⟩⟩
    · simp [Value.cells] at hcs
      obtain ⟨rfl, rfl, rfl⟩ := hcs
      exact ⟨zs, .inr ⟨_, rfl, hl, hm, by simpa using hz, hcell, hwz⟩⟩
  clear hA0 hval0
  refine (walk a0 len0 cap0 z0 W w0).mono fun e W' ⟨he, bel⟩ => ?_
  subst he
  exact ⟨_, rfl, _, _, _, [], _, [], hW', trodAll_mk1 (shut_bool Try.underlying4 _), (trodAll_cons_mk (Below.trod laidOut (by kernel_rfl) (of_decide_eq_true (by kernel_rfl)) k0 bel lt0) trodAll_mk0), rfl, bel.frame _, fun h => by cases h⟩

theorem over : Rows.fnElementsTextRow.holds Try.pinned (OpenSpec.ofChange Rows.fnElementsTextSpec) :=
  OpenClaim.holds_of_wide 4 Try.f4 rfl rfl rfl rfl rfl rfl rfl ⟨rfl, rfl, rfl, rfl, rfl⟩ rfl rfl rfl rfl rfl (by kernel_rfl) Try.func4 (by kernel_rfl)
    (of_decide_eq_true (by kernel_rfl)) (by unfold Func.isWrapper; first | (rw [if_pos (by decide +kernel)]; kernel_rfl) | (rw [if_neg (by decide +kernel)]; exact ⟨rfl, rfl⟩))
    (fun os started H enc _ => lifted os started H enc)

/-- ████ THE STATEMENT ████ -/
theorem proved : Rows.FnElementsTextSaid := over
#print axioms proved
end Go.Proofs.Ytjdllminjpppbaa.fnElementsText
