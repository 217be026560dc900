/-
  'FnSignText' answers true at every input, and each argument reads behind the call as before. Conditions: none.
  The frame is the kit's shell (proof-skeleton.mjs); the walk is the verifier's.
-/
import Derived.Test.YthniiknhbhoncaaRows
import Derived.Test.YthniiknhbhoncaaJD
import Derived.Test.YthniiknhbhoncaaJG
import Derived.Test.YthniiknhbhoncaaGc
import Derived.Lib.Hide
import Derived.Outline
import Derived.BigQuiet
import Derived.Deep.QuietTactic
import Derived.Deep.Draws
import Derived.Laws.OwnMore
import Derived.Laws.Rows
import Derived.WalkSpells
import Derived.Deep.RegionWith
import Derived.WalkKit
import Derived.ProofKit
import Derived.OpenShut
import Derived.ShutString
import Derived.ChangeOld
import Derived.Below
namespace Go.Proofs.Ythniiknhbhoncaa.fnSignText
open Go.ChangeShapes Go.WideShapes Go.ChangeAt Go.RowKit
open Go.ChangeMaps (open_string shut_string)
set_option linter.unusedVariables false

theorem own : ownKnob Try.prog.godebug = none := by kernel_rfl
theorem laidOut : laidOutB Try.prog = true := by kernel_rfl

/-- WHAT THE WALK IS TOLD OF A SLICE OF INTEGERS THAT CAME IN: it is nil; or it leads to a row of 'cap' cells, the numbers 'zs' (the first 'len' are its elements, the rest its spare room), each fitting its kind. -/
def IsRow (k : IntKind) (w : World) (a : Option Addr) (len cap : Nat) (zs : List Int) : Prop :=
  (a = none ∧ len = 0 ∧ cap = 0 ∧ zs = []) ∨
  ∃ x, a = some x ∧ len ≤ cap ∧ cap ≤ maxLen ∧ zs.length = cap ∧ (∀ i, i < zs.length → w.cell? (x.add i) = some (.int k (zs.getD i 0))) ∧ ∀ n ∈ zs, (Lit.int k n).wf = true

/-! ### STEP 1: THE WALK: the Go text returns true, AND WRITES NOTHING THAT WAS THERE: 'Below w.heap.size w w'' (Derived/Below.lean: '.refl', '.alloc', '.drew', '.setCell' at a new block, '.trans'). Open each 'IsRow' by 'rcases' AHEAD of 'go_enter'; part every test ahead of the walk. -/
set_option maxRecDepth 100000 in
set_option maxHeartbeats 4000000 in
theorem walk (a0 : Option Addr) (len0 cap0 : Nat) (z0 : List Int) (w : World) (w0 : IsRow .u8 w a0 len0 cap0 z0) :
    Calls Try.prog 3 #[.slice a0 len0 cap0] w fun e w' => e = .returned (.bool true) ∧ Below w.heap.size w w' := by
  have hcode := codeArg_of w0
  have hcap := hcode.1
  have hcap2 := hcode.2.1
  unfold maxLen at hcap2
  clear w0
  by_cases hbig : 1048576 < len0
  · go_enter Try.func3, Try.ntmps3
    go_wp2
    go_ret
    exact ⟨rfl, Below.refl _ _⟩
  · go_enter Try.func3, Try.ntmps3
    go_wp2_with fail
    refine (drawSgT_any w a0 len0 cap0 hcode).mono ?_
    rintro e w2 ⟨⟨a, b, e⟩, s, rfl, hsh, hb2⟩
    have hB := Lib.hid hb2
    clear hb2
    have hm : s.size ≤ maxLen := by unfold maxLen; omega
    simp only [aggKy]
    obtain ⟨⟨⟨t, m, u, g⟩, ok⟩, hP⟩ : ∃ P, sgX ⟨a, b, e⟩ s = P := ⟨_, rfl⟩
    have HP := Lib.hid hP
    obtain ⟨x3, hx3⟩ : ∃ x3, w2.alloc (.cells #[.int .i64 a, .int .i64 b, .int .i64 e] 24) = x3 := ⟨_, rfl⟩
    have gx3 : Below w2.heap.size w2 x3 := by rw [← hx3]; exact (Below.refl _ _).alloc (Nat.le_refl _) _
    replace hB := Lib.hid (below_trans' hB.out gx3)
    clear gx3
    have K0 := Lib.hid (Below.refl x3.heap.size x3)
    have R0 := Lib.hid (fun wX (hX : Below x3.heap.size x3 wX) => row3 hx3 hX)
    obtain ⟨y0_0, y0_1, y0_2⟩ := R0.out _ K0.out
    go_wp2_with fail
    have hx3 := Lib.hid hx3
    refine (sgI_text a b e s _ hm).mono ?_
    rintro e w3 ⟨rfl, hb3⟩
    rw [HP.out]
    replace hB := Lib.hid (below_trans' hB.out hb3)
    replace K0 := Lib.hid (below_trans' K0.out hb3)
    clear hb3
    clear y0_0 y0_1 y0_2
    obtain ⟨y0_0, y0_1, y0_2⟩ := R0.out _ K0.out
    simp only [aggSg]
    obtain ⟨x4, hx4⟩ : ∃ x4, w3.alloc (.cells #[.string t, .int .i64 m, .int .i64 u, .int .i64 g] 28) = x4 := ⟨_, rfl⟩
    have gx4 : Below w3.heap.size w3 x4 := by rw [← hx4]; exact (Below.refl _ _).alloc (Nat.le_refl _) _
    replace hB := Lib.hid (below_trans' hB.out gx4)
    replace K0 := Lib.hid (below_trans' K0.out gx4)
    clear gx4
    clear y0_0 y0_1 y0_2
    obtain ⟨y0_0, y0_1, y0_2⟩ := R0.out _ K0.out
    have K1 := Lib.hid (Below.refl x4.heap.size x4)
    have R1 := Lib.hid (fun wX (hX : Below x4.heap.size x4 wX) => row4 hx4 hX)
    obtain ⟨y1_0, y1_1, y1_2, y1_3⟩ := R1.out _ K1.out
    go_wp2_with fail
    have hx4 := Lib.hid hx4
    refine (sgS_text a b e s _ hm).mono ?_
    rintro e w4 ⟨rfl, hb4⟩
    rw [HP.out]
    replace hB := Lib.hid (below_trans' hB.out hb4)
    replace K0 := Lib.hid (below_trans' K0.out hb4)
    replace K1 := Lib.hid (below_trans' K1.out hb4)
    clear hb4
    clear y0_0 y0_1 y0_2
    obtain ⟨y0_0, y0_1, y0_2⟩ := R0.out _ K0.out
    clear y1_0 y1_1 y1_2 y1_3
    obtain ⟨y1_0, y1_1, y1_2, y1_3⟩ := R1.out _ K1.out
    simp only [aggSg]
    obtain ⟨x5, hx5⟩ : ∃ x5, w4.alloc (.cells #[.string t, .int .i64 m, .int .i64 u, .int .i64 g] 28) = x5 := ⟨_, rfl⟩
    have gx5 : Below w4.heap.size w4 x5 := by rw [← hx5]; exact (Below.refl _ _).alloc (Nat.le_refl _) _
    replace hB := Lib.hid (below_trans' hB.out gx5)
    replace K0 := Lib.hid (below_trans' K0.out gx5)
    replace K1 := Lib.hid (below_trans' K1.out gx5)
    clear gx5
    clear y0_0 y0_1 y0_2
    obtain ⟨y0_0, y0_1, y0_2⟩ := R0.out _ K0.out
    clear y1_0 y1_1 y1_2 y1_3
    obtain ⟨y1_0, y1_1, y1_2, y1_3⟩ := R1.out _ K1.out
    have K2 := Lib.hid (Below.refl x5.heap.size x5)
    have R2 := Lib.hid (fun wX (hX : Below x5.heap.size x5 wX) => row4 hx5 hX)
    obtain ⟨y2_0, y2_1, y2_2, y2_3⟩ := R2.out _ K2.out
    have q0 : (t.toList == t.toList) = true := by simp
    have q1 : (m == m) = true := by simp
    have q2 : (u == u) = true := by simp
    have q3 : (g == g) = true := by simp
    cases ok with
    | false =>
      have hz := sgX_no hP
      unfold Sg.zero at hz
      injection hz with z0 z1 z2 z3
      have t0 : t.toList = [] := str_nil (by rw [z0]; rfl)
      have t1 : (m == 0) = true := by rw [z1]; rfl
      have t2 : (u == 0) = true := by rw [z2]; rfl
      have t3 : (g == 0) = true := by rw [z3]; rfl
      clear z0 z1 z2 z3 hP
      go_wp2_with (first | (go_at_call 12; ((with_reducible refine (alive_any _).mono ?_); rintro e w' ⟨rfl, rfl⟩)))
      go_ret
      exact ⟨rfl, hB.out⟩
    | true =>
      have hby := Lib.hid (sgX_by hP)
      obtain ⟨hts, h80, _⟩ := sgX_sig hP
      simp only at hts h80
      have htm : t.size ≤ maxLen := by unfold maxLen; omega
      have q5 := str_same hts
      clear hP hts h80
      go_wp2_with fail
      have hx5 := Lib.hid hx5
      refine (sgI_by t m u g a b e _ htm).mono ?_
      rintro e w5 ⟨rfl, hb5⟩
      rw [hby.out]
      replace hB := Lib.hid (below_trans' hB.out hb5)
      replace K0 := Lib.hid (below_trans' K0.out hb5)
      replace K1 := Lib.hid (below_trans' K1.out hb5)
      replace K2 := Lib.hid (below_trans' K2.out hb5)
      clear hb5
      clear y0_0 y0_1 y0_2
      obtain ⟨y0_0, y0_1, y0_2⟩ := R0.out _ K0.out
      clear y1_0 y1_1 y1_2 y1_3
      obtain ⟨y1_0, y1_1, y1_2, y1_3⟩ := R1.out _ K1.out
      clear y2_0 y2_1 y2_2 y2_3
      obtain ⟨y2_0, y2_1, y2_2, y2_3⟩ := R2.out _ K2.out
      go_wp2
      go_ret
      exact ⟨rfl, hB.out⟩

/-! ### THE ROW's STEP: WRITTEN OUT: LEAVE IT -/
set_option maxRecDepth 100000 in
theorem lifted (os : Os) (started : os.Started) (H : Type) (enc : TypeId × Value → H) :
    ReturnsInHanded {} Try.checked os 3 .any (Rows.fnSignTextSpec.pre6 enc Try.prog Try.f3 Rows.fnSignTextRow.domain false) (Rows.fnSignTextSpec.post enc Try.prog Try.f3 false true false false) := by
  refine returnsInHanded_of_change (C := Try.checked) own started (by kernel_rfl) Try.func3
    (ChangeSpec.witness6 (enc := enc) (C := Try.checked) false ⟨#[], #[.slice none 0 0], []⟩ 8 (by kernel_rfl) (by kernel_rfl) (by kernel_rfl) (by kernel_rfl)) ?_
  intro W base args ds gs before hval0 hW hcnd _
  have hval : ∀ (j : Nat) t v, Try.f3.params[j]? = some t → args[j]? = some v → Value.okWide Try.prog W .any base t v := hval0
  have hW' := hW
  obtain ⟨p, q, hA0, hV, rfl, hfz, hnd⟩ := hW
  have hA : DataW.TrodAll enc Try.prog W 0 (fun _ => true) true Try.f3.params.toList args.toList ds p := hA0
  rw [Try.params3] at hA hval
  obtain ⟨v0, vs0, d0, ds0, p0, q0, hargs, rfl, rfl, h0, r0⟩ := trodAll_cons hA
  obtain ⟨rfl, rfl, rfl⟩ := trodAll_nil r0
  obtain rfl : args = #[v0] := by cases args; simp_all
  obtain ⟨rfl, rfl⟩ := trodVars_none hV
  obtain ⟨a0, len0, cap0, rfl⟩ := okWide_slice Try.underlying22 (hval 0 22 v0 rfl rfl)
  have k0 := h0
  have lt0 : ∀ x ∈ p0, x.block < W.heap.size := by obtain ⟨m, hm⟩ := k0; exact DataW.trod_lt m _ _ _ hm
  obtain ⟨z0, w0⟩ : ∃ zs, IsRow .u8 W a0 len0 cap0 zs := by
    obtain ⟨fuel, hf⟩ := h0
    rcases open_ints Try.underlying22 Try.underlying5 (by kernel_rfl) hf with ⟨hcs, _⟩ | ⟨x, l, c, zs, hcs, _, hl, hm, hz, _, hcell, hwz⟩
    · simp [Value.cells] at hcs
      obtain ⟨rfl, rfl, rfl⟩ := hcs
      exact ⟨[], .inl ⟨rfl, rfl, rfl, rfl⟩⟩
    · simp [Value.cells] at hcs
      obtain ⟨rfl, rfl, rfl⟩ := hcs
      exact ⟨zs, .inr ⟨_, rfl, hl, hm, by simpa using hz, hcell, hwz⟩⟩
  clear hA0 hval0
  refine (walk a0 len0 cap0 z0 W w0).mono fun e W' ⟨he, bel⟩ => ?_
  subst he
  exact ⟨_, rfl, _, _, _, [], _, [], hW', trodAll_mk1 (shut_bool Try.underlying4 _), (trodAll_cons_mk (Below.trod laidOut (by kernel_rfl) (of_decide_eq_true (by kernel_rfl)) k0 bel lt0) trodAll_mk0), rfl, bel.frame _, fun h => by cases h⟩

theorem over : Rows.fnSignTextRow.holds Try.pinned (OpenSpec.ofChange Rows.fnSignTextSpec) :=
  OpenClaim.holds_of_wide 3 Try.f3 rfl rfl rfl rfl rfl rfl rfl ⟨rfl, rfl, rfl, rfl, rfl⟩ rfl rfl rfl rfl rfl (by kernel_rfl) Try.func3 (by kernel_rfl)
    (of_decide_eq_true (by kernel_rfl)) (by unfold Func.isWrapper; first | (rw [if_pos (by decide +kernel)]; kernel_rfl) | (rw [if_neg (by decide +kernel)]; exact ⟨rfl, rfl⟩))
    (fun os started H enc _ => lifted os started H enc)

/-- ████ THE STATEMENT ████ -/
theorem proved : Rows.FnSignTextSaid := over
#print axioms proved
end Go.Proofs.Ythniiknhbhoncaa.fnSignText
