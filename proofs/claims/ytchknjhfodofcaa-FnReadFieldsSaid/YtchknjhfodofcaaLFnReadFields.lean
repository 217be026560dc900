/-
  'FnReadFields' answers true at every input, and each argument reads behind the call as before. Conditions: none.
  The frame is the kit's shell (proof-skeleton.mjs); the walk is the verifier's.
-/
import Derived.Test.YtchknjhfodofcaaRows
import Derived.Test.YtchknjhfodofcaaHO
import Derived.Test.YtchknjhfodofcaaHL
import Derived.Test.YtchknjhfodofcaaHJ
import Derived.Test.YtchknjhfodofcaaGc
import Derived.Lib.Hide
import Derived.Outline
import Derived.BigQuiet
import Derived.Deep.QuietTactic
import Derived.Deep.Draws
import Derived.Laws.OwnMore
import Derived.Laws.Rows
import Derived.WalkSpells
import Derived.Deep.RegionWith
import Derived.WalkKit
import Derived.ProofKit
import Derived.OpenShut
import Derived.ShutString
import Derived.ChangeOld
import Derived.Below
namespace Go.Proofs.Ytchknjhfodofcaa.fnReadFields
open Go.ChangeShapes Go.WideShapes Go.ChangeAt Go.RowKit
open Go.ChangeMaps (open_string shut_string)
set_option linter.unusedVariables false

theorem own : ownKnob Try.prog.godebug = none := by kernel_rfl
theorem laidOut : laidOutB Try.prog = true := by kernel_rfl

/-- WHAT THE WALK IS TOLD OF A SLICE OF INTEGERS THAT CAME IN: it is nil; or it leads to a row of 'cap' cells, the numbers 'zs' (the first 'len' are its elements, the rest its spare room), each fitting its kind. -/
def IsRow (k : IntKind) (w : World) (a : Option Addr) (len cap : Nat) (zs : List Int) : Prop :=
  (a = none ∧ len = 0 ∧ cap = 0 ∧ zs = []) ∨
  ∃ x, a = some x ∧ len ≤ cap ∧ cap ≤ maxLen ∧ zs.length = cap ∧ (∀ i, i < zs.length → w.cell? (x.add i) = some (.int k (zs.getD i 0))) ∧ ∀ n ∈ zs, (Lit.int k n).wf = true

/-! ### STEP 1: THE WALK: the Go text returns true, AND WRITES NOTHING THAT WAS THERE: 'Below w.heap.size w w'' (Derived/Below.lean: '.refl', '.alloc', '.drew', '.setCell' at a new block, '.trans'). Open each 'IsRow' by 'rcases' AHEAD of 'go_enter'; part every test ahead of the walk. -/
set_option maxRecDepth 100000 in
set_option maxHeartbeats 4000000 in
theorem walk (a0 : Option Addr) (len0 cap0 : Nat) (z0 : List Int) (w : World) (w0 : IsRow .u8 w a0 len0 cap0 z0) :
    Calls Try.prog 6 #[.slice a0 len0 cap0] w fun e w' => e = .returned (.bool true) ∧ Below w.heap.size w w' := by
  have hcode := codeArg_of w0
  have hcap := hcode.1
  have hcap2 := hcode.2.1
  unfold maxLen at hcap2
  clear w0
  by_cases hbig : 1048576 < len0
  · go_enter Try.func6, Try.ntmps6
    go_wp2
    go_ret
    exact ⟨rfl, Below.refl _ _⟩
  · go_enter Try.func6, Try.ntmps6
    go_wp2_with fail
    refine (drawFR_any w a0 len0 cap0 hcode).mono ?_
    rintro e w2 ⟨s, hs, rfl, hb2⟩
    have hb2 := Lib.hid hb2
    have hs2 : s.size ≤ 90000000 := by omega
    obtain ⟨⟨L, z⟩, hP⟩ : ∃ P, flR s.data.toList = P := ⟨_, rfl⟩
    have HP := Lib.hid hP
    clear hP
    go_wp2_with fail
    refine (flI_read s _ hs2).mono ?_
    rw [HP.out]
    rintro e w3 ⟨x, rfl, hx, hb3⟩
    have hrx := Lib.hid (OwnG.rd hx)
    have hb3 := Lib.hid (below_trans' hb2.out hb3)
    simp only
    go_wp2_with fail
    refine (flS_read s _ hs2).mono ?_
    rw [HP.out]
    rintro e w4 ⟨y, rfl, hy, hb4⟩
    have hry := Lib.hid (OwnG.rd hy)
    have hrx4 := Lib.hid (hrx.out.below hb4)
    have hb4 := Lib.hid (below_trans' hb3.out hb4)
    simp only
    go_wp2_with fail
    refine (sameFd_any x y L _ hrx4.out hry.out).mono ?_
    rintro e w5 ⟨rfl, n5, rfl⟩
    have hb5 := Lib.hid (Below.drawn hb4.out n5)
    have hrx5 := Lib.hid (hrx4.out.below (below_drewN w4 n5))
    rcases z with _ | _
    · have hz := flR_false HP.out
      subst hz
      obtain ⟨A, c, rfl, hc⟩ := hrx5.out.nil
      go_wp2_with (go_at_call 14; refine (alive_any _).mono ?_; rintro e w' ⟨rfl, rfl⟩)
      go_ret
      exact ⟨rfl, hb5.out⟩
    · obtain ⟨hiB, hiA, hiT⟩ := flR_got HP.out
      have hf : FitFds L := fitFd_of hiB
      have HM := Lib.hid (flR_more HP.out)
      have HT : Hid (bs (ftT (soF L)) = s) := Lib.hid (by rw [soF_same hiB hiA, hiT]; apply ByteArray.ext; apply Array.toList_inj.1; rw [bs_data])
      have zk : (⟨#[59]⟩ : ByteArray).size = 1 := rfl
      have sk : s.size + (⟨#[59]⟩ : ByteArray).size ≤ 9223372036854775807 := by omega
      have hsk : (s ++ ⟨#[59]⟩ : ByteArray).size ≤ 90000000 := by rw [ByteArray.size_append]; omega
      have HA : Hid ((s ++ ⟨#[59]⟩ : ByteArray).data.toList = s.data.toList ++ [59]) := Lib.hid (by simp)
      have q3 := str_same (a := s) (b := s) rfl
      clear hiB hiA hiT zk
      go_wp2_with fail
      refine (flI_read _ _ hsk).mono ?_
      rw [HA.out, HM.out]
      rintro e w8 ⟨x8, rfl, _, hb8⟩
      have hrx8 := Lib.hid (hrx5.out.below hb8)
      have hb8 := Lib.hid (below_trans' hb5.out hb8)
      simp only
      go_wp2_with fail
      refine (flI_text x L _ hrx8.out hf).mono ?_
      rintro e w9 ⟨rfl, hb9⟩
      rw [HT.out]
      have hb9 := Lib.hid (below_trans' hb8.out hb9)
      go_wp2
      go_ret
      exact ⟨rfl, hb9.out⟩

/-! ### THE ROW's STEP: WRITTEN OUT: LEAVE IT -/
set_option maxRecDepth 100000 in
theorem lifted (os : Os) (started : os.Started) (H : Type) (enc : TypeId × Value → H) :
    ReturnsInHanded {} Try.checked os 6 .any (Rows.fnReadFieldsSpec.pre6 enc Try.prog Try.f6 Rows.fnReadFieldsRow.domain false) (Rows.fnReadFieldsSpec.post enc Try.prog Try.f6 false true false false) := by
  refine returnsInHanded_of_change (C := Try.checked) own started (by kernel_rfl) Try.func6
    (ChangeSpec.witness6 (enc := enc) (C := Try.checked) false ⟨#[], #[.slice none 0 0], []⟩ 8 (by kernel_rfl) (by kernel_rfl) (by kernel_rfl) (by kernel_rfl)) ?_
  intro W base args ds gs before hval0 hW hcnd _
  have hval : ∀ (j : Nat) t v, Try.f6.params[j]? = some t → args[j]? = some v → Value.okWide Try.prog W .any base t v := hval0
  have hW' := hW
  obtain ⟨p, q, hA0, hV, rfl, hfz, hnd⟩ := hW
  have hA : DataW.TrodAll enc Try.prog W 0 (fun _ => true) true Try.f6.params.toList args.toList ds p := hA0
  rw [Try.params6] at hA hval
  obtain ⟨v0, vs0, d0, ds0, p0, q0, hargs, rfl, rfl, h0, r0⟩ := trodAll_cons hA
  obtain ⟨rfl, rfl, rfl⟩ := trodAll_nil r0
  obtain rfl : args = #[v0] := by cases args; simp_all
  obtain ⟨rfl, rfl⟩ := trodVars_none hV
  obtain ⟨a0, len0, cap0, rfl⟩ := okWide_slice Try.underlying22 (hval 0 22 v0 rfl rfl)
  have k0 := h0
  have lt0 : ∀ x ∈ p0, x.block < W.heap.size := by obtain ⟨m, hm⟩ := k0; exact DataW.trod_lt m _ _ _ hm
  obtain ⟨z0, w0⟩ : ∃ zs, IsRow .u8 W a0 len0 cap0 zs := by
    obtain ⟨fuel, hf⟩ := h0
    rcases open_ints Try.underlying22 Try.underlying5 (by kernel_rfl) hf with ⟨hcs, _⟩ | ⟨x, l, c, zs, hcs, _, hl, hm, hz, _, hcell, hwz⟩
    · simp [Value.cells] at hcs
      obtain ⟨rfl, rfl, rfl⟩ := hcs
      exact ⟨[], .inl ⟨rfl, rfl, rfl, rfl⟩⟩
    · simp [Value.cells] at hcs
      obtain ⟨rfl, rfl, rfl⟩ := hcs
      exact ⟨zs, .inr ⟨_, rfl, hl, hm, by simpa using hz, hcell, hwz⟩⟩
  clear hA0 hval0
  refine (walk a0 len0 cap0 z0 W w0).mono fun e W' ⟨he, bel⟩ => ?_
  subst he
  exact ⟨_, rfl, _, _, _, [], _, [], hW', trodAll_mk1 (shut_bool Try.underlying4 _), (trodAll_cons_mk (Below.trod laidOut (by kernel_rfl) (of_decide_eq_true (by kernel_rfl)) k0 bel lt0) trodAll_mk0), rfl, bel.frame _, fun h => by cases h⟩

theorem over : Rows.fnReadFieldsRow.holds Try.pinned (OpenSpec.ofChange Rows.fnReadFieldsSpec) :=
  OpenClaim.holds_of_wide 6 Try.f6 rfl rfl rfl rfl rfl rfl rfl ⟨rfl, rfl, rfl, rfl, rfl⟩ rfl rfl rfl rfl rfl (by kernel_rfl) Try.func6 (by kernel_rfl)
    (of_decide_eq_true (by kernel_rfl)) (by unfold Func.isWrapper; first | (rw [if_pos (by decide +kernel)]; kernel_rfl) | (rw [if_neg (by decide +kernel)]; exact ⟨rfl, rfl⟩))
    (fun os started H enc _ => lifted os started H enc)

/-- ████ THE STATEMENT ████ -/
theorem proved : Rows.FnReadFieldsSaid := over
#print axioms proved
end Go.Proofs.Ytchknjhfodofcaa.fnReadFields
