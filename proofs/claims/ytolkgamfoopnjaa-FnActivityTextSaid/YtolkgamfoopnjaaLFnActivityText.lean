/-
  'FnActivityText' answers true at every input, and each argument reads behind the call as before. Conditions: none.
  The frame is the kit's shell (proof-skeleton.mjs); the walk is the verifier's.
-/
import Derived.Test.YtolkgamfoopnjaaRows
import Derived.Test.YtolkgamfoopnjaaHM
import Derived.Test.YtolkgamfoopnjaaHH
import Derived.Test.YtolkgamfoopnjaaHI
import Derived.Test.YtolkgamfoopnjaaHG
import Derived.Test.YtolkgamfoopnjaaGc
import Derived.Lib.Hide
import Derived.Outline
import Derived.BigQuiet
import Derived.Deep.QuietTactic
import Derived.Deep.Draws
import Derived.Laws.OwnMore
import Derived.Laws.Rows
import Derived.WalkSpells
import Derived.Deep.RegionWith
import Derived.WalkKit
import Derived.ProofKit
import Derived.OpenShut
import Derived.ShutString
import Derived.ChangeOld
import Derived.Below
namespace Go.Proofs.Ytolkgamfoopnjaa.fnActivityText
open Go.ChangeShapes Go.WideShapes Go.ChangeAt Go.RowKit
open Go.ChangeMaps (open_string shut_string)
set_option linter.unusedVariables false

theorem own : ownKnob Try.prog.godebug = none := by kernel_rfl
theorem laidOut : laidOutB Try.prog = true := by kernel_rfl

/-- WHAT THE WALK IS TOLD OF A SLICE OF INTEGERS THAT CAME IN: it is nil; or it leads to a row of 'cap' cells, the numbers 'zs' (the first 'len' are its elements, the rest its spare room), each fitting its kind. -/
def IsRow (k : IntKind) (w : World) (a : Option Addr) (len cap : Nat) (zs : List Int) : Prop :=
  (a = none ∧ len = 0 ∧ cap = 0 ∧ zs = []) ∨
  ∃ x, a = some x ∧ len ≤ cap ∧ cap ≤ maxLen ∧ zs.length = cap ∧ (∀ i, i < zs.length → w.cell? (x.add i) = some (.int k (zs.getD i 0))) ∧ ∀ n ∈ zs, (Lit.int k n).wf = true

/-! ### STEP 1: THE WALK: the Go text returns true, AND WRITES NOTHING THAT WAS THERE: 'Below w.heap.size w w'' (Derived/Below.lean: '.refl', '.alloc', '.drew', '.setCell' at a new block, '.trans'). Open each 'IsRow' by 'rcases' AHEAD of 'go_enter'; part every test ahead of the walk. -/
set_option maxRecDepth 100000 in
set_option maxHeartbeats 4000000 in
theorem walk (a0 : Option Addr) (len0 cap0 : Nat) (z0 : List Int) (w : World) (w0 : IsRow .u8 w a0 len0 cap0 z0) :
    Calls Try.prog 3 #[.slice a0 len0 cap0] w fun e w' => e = .returned (.bool true) ∧ Below w.heap.size w w' := by
  have hcode := codeArg_of w0
  have hcap := hcode.1
  have hcap2 := hcode.2.1
  unfold maxLen at hcap2
  clear w0
  by_cases hbig : 1048576 < len0
  · go_enter Try.func3, Try.ntmps3
    go_wp2
    go_ret
    exact ⟨rfl, Below.refl _ _⟩
  · go_enter Try.func3, Try.ntmps3
    go_wp2_with fail
    refine (drawAyT_any w a0 len0 cap0 hcode).mono ?_
    rintro e w2 ⟨⟨kind, num, ⟨na, ho⟩, what⟩, rfl, hsh, hb2⟩
    simp only [aggAy]
    have hfi : FitAy ⟨kind, num, ⟨na, ho⟩, what⟩ := fitAy_sh hsh
    have ma := fit_max hfi.1
    have mb := fit_max hfi.2.1
    have mt := fit_max hfi.2.2
    simp only at ma mb mt
    obtain ⟨w3, hw3⟩ : ∃ w3, w2.alloc (.cells #[.int .i64 kind, .int .i64 num, .string na, .string ho, .string what] 26) = w3 := ⟨_, rfl⟩
    have hb3 : Below w.heap.size w w3 := by rw [← hw3]; exact hb2.alloc hb2.size _
    obtain ⟨r0, r1, r2, r3, r4⟩ := row5 hw3 (Below.refl _ _)
    have hb3 := Lib.hid hb3
    clear hb2 hsh
    have hsz : (bs (ayT ⟨kind, num, ⟨na, ho⟩, what⟩)).size ≤ 90000000 := by rw [bs_size]; have := ayT_len ⟨kind, num, ⟨na, ho⟩, what⟩; omega
    obtain ⟨s, hs⟩ : ∃ s, bs (ayT ⟨kind, num, ⟨na, ho⟩, what⟩) = s := ⟨_, rfl⟩
    have HS := Lib.hid hs
    have HD : Hid (s.data.toList = ayT ⟨kind, num, ⟨na, ho⟩, what⟩) := Lib.hid (by rw [← hs]; exact bs_data _)
    rw [hs] at hsz
    have q0 := str_same (a := s) (b := s) rfl
    clear hs
    go_wp2_with fail
    have hw3 := Lib.hid hw3
    refine (ayI_text kind num na ho what _ hfi).mono ?_
    rintro e w4 ⟨rfl, hb4⟩
    rw [HS.out]
    have hk4 := Lib.hid hb4
    clear r0 r1 r2 r3 r4 hb4
    obtain ⟨r0, r1, r2, r3, r4⟩ := row5 hw3.out hk4.out
    go_wp2_with fail
    refine (ayS_text kind num na ho what _ hfi).mono ?_
    rintro e w5 ⟨rfl, hb5⟩
    rw [HS.out]
    have hk5 := Lib.hid (below_trans' hk4.out hb5)
    clear r0 r1 r2 r3 r4 hb5
    obtain ⟨r0, r1, r2, r3, r4⟩ := row5 hw3.out hk5.out
    go_wp2_with fail
    refine (ayS_valid kind num na ho what _ ma mb mt).mono ?_
    rintro e w6 ⟨rfl, hb6⟩
    have hk6 := Lib.hid (below_trans' hk5.out hb6)
    clear r0 r1 r2 r3 r4 hb6
    rcases hi : ayB ⟨kind, num, ⟨na, ho⟩, what⟩ with _ | _
    · have z : s.toList = [] := by rw [← HS.out, ayT_out hi]; exact str_nil rfl
      clear hi
      go_wp2_with (go_at_call 8; refine (alive_any _).mono ?_; rintro e w' ⟨rfl, rfl⟩)
      go_ret
      exact ⟨rfl, below_trans' hb3.out hk6.out⟩
    · have HI := Lib.hid (ayR_text hi)
      have HX := Lib.hid (ayT_textB hi)
      have hsm : s.size ≤ maxLen := by unfold maxLen; omega
      clear hi
      go_wp2_with fail
      refine (ayI_read s _ (by omega)).mono ?_
      rw [HD.out, HI.out]
      rintro e w7 ⟨rfl, hb7⟩
      simp only [aggAy]
      have hk7 := Lib.hid (below_trans' hk6.out hb7)
      clear hb7
      obtain ⟨w8, hw8⟩ : ∃ w8, w7.alloc (.cells #[.int .i64 kind, .int .i64 num, .string na, .string ho, .string what] 26) = w8 := ⟨_, rfl⟩
      have hk78 : Below w7.heap.size w7 w8 := by rw [← hw8]; exact (Below.refl _ _).alloc (Nat.le_refl _) _
      have hk8 := Lib.hid (below_trans' hk7.out hk78)
      obtain ⟨r0, r1, r2, r3, r4⟩ := row5 hw3.out hk8.out
      obtain ⟨x0, x1, x2, x3, x4⟩ := row5 hw8 (Below.refl _ _)
      have k0 : (kind == kind) = true := by simp
      have k1 : (num == num) = true := by simp
      have k2 := str_same (a := na) (b := na) rfl
      have k3 := str_same (a := ho) (b := ho) rfl
      have k4 := str_same (a := what) (b := what) rfl
      clear hk78
      go_wp2_with (go_at_call 10; refine (text_any s _ hsm).mono ?_; rintro e w' ⟨rfl, rfl⟩; rw [HD.out, HX.out])
      go_ret
      exact ⟨rfl, below_trans' hb3.out hk8.out⟩

/-! ### THE ROW's STEP: WRITTEN OUT: LEAVE IT -/
set_option maxRecDepth 100000 in
theorem lifted (os : Os) (started : os.Started) (H : Type) (enc : TypeId × Value → H) :
    ReturnsInHanded {} Try.checked os 3 .any (Rows.fnActivityTextSpec.pre6 enc Try.prog Try.f3 Rows.fnActivityTextRow.domain false) (Rows.fnActivityTextSpec.post enc Try.prog Try.f3 false true false false) := by
  refine returnsInHanded_of_change (C := Try.checked) own started (by kernel_rfl) Try.func3
    (ChangeSpec.witness6 (enc := enc) (C := Try.checked) false ⟨#[], #[.slice none 0 0], []⟩ 8 (by kernel_rfl) (by kernel_rfl) (by kernel_rfl) (by kernel_rfl)) ?_
  intro W base args ds gs before hval0 hW hcnd _
  have hval : ∀ (j : Nat) t v, Try.f3.params[j]? = some t → args[j]? = some v → Value.okWide Try.prog W .any base t v := hval0
  have hW' := hW
  obtain ⟨p, q, hA0, hV, rfl, hfz, hnd⟩ := hW
  have hA : DataW.TrodAll enc Try.prog W 0 (fun _ => true) true Try.f3.params.toList args.toList ds p := hA0
  rw [Try.params3] at hA hval
  obtain ⟨v0, vs0, d0, ds0, p0, q0, hargs, rfl, rfl, h0, r0⟩ := trodAll_cons hA
  obtain ⟨rfl, rfl, rfl⟩ := trodAll_nil r0
  obtain rfl : args = #[v0] := by cases args; simp_all
  obtain ⟨rfl, rfl⟩ := trodVars_none hV
  obtain ⟨a0, len0, cap0, rfl⟩ := okWide_slice Try.underlying22 (hval 0 22 v0 rfl rfl)
  have k0 := h0
  have lt0 : ∀ x ∈ p0, x.block < W.heap.size := by obtain ⟨m, hm⟩ := k0; exact DataW.trod_lt m _ _ _ hm
  obtain ⟨z0, w0⟩ : ∃ zs, IsRow .u8 W a0 len0 cap0 zs := by
    obtain ⟨fuel, hf⟩ := h0
    rcases open_ints Try.underlying22 Try.underlying5 (by kernel_rfl) hf with ⟨hcs, _⟩ | ⟨x, l, c, zs, hcs, _, hl, hm, hz, _, hcell, hwz⟩
    · simp [Value.cells] at hcs
      obtain ⟨rfl, rfl, rfl⟩ := hcs
      exact ⟨[], .inl ⟨rfl, rfl, rfl, rfl⟩⟩
    · simp [Value.cells] at hcs
      obtain ⟨rfl, rfl, rfl⟩ := hcs
      exact ⟨zs, .inr ⟨_, rfl, hl, hm, by simpa using hz, hcell, hwz⟩⟩
  clear hA0 hval0
  refine (walk a0 len0 cap0 z0 W w0).mono fun e W' ⟨he, bel⟩ => ?_
  subst he
  exact ⟨_, rfl, _, _, _, [], _, [], hW', trodAll_mk1 (shut_bool Try.underlying4 _), (trodAll_cons_mk (Below.trod laidOut (by kernel_rfl) (of_decide_eq_true (by kernel_rfl)) k0 bel lt0) trodAll_mk0), rfl, bel.frame _, fun h => by cases h⟩

theorem over : Rows.fnActivityTextRow.holds Try.pinned (OpenSpec.ofChange Rows.fnActivityTextSpec) :=
  OpenClaim.holds_of_wide 3 Try.f3 rfl rfl rfl rfl rfl rfl rfl ⟨rfl, rfl, rfl, rfl, rfl⟩ rfl rfl rfl rfl rfl (by kernel_rfl) Try.func3 (by kernel_rfl)
    (of_decide_eq_true (by kernel_rfl)) (by unfold Func.isWrapper; first | (rw [if_pos (by decide +kernel)]; kernel_rfl) | (rw [if_neg (by decide +kernel)]; exact ⟨rfl, rfl⟩))
    (fun os started H enc _ => lifted os started H enc)

/-- ████ THE STATEMENT ████ -/
theorem proved : Rows.FnActivityTextSaid := over
#print axioms proved
end Go.Proofs.Ytolkgamfoopnjaa.fnActivityText
